/- comb.inTurn: the rows that have pairs in their order. -/
import Derived.Test.YtjeebcnjdhlcfaaDoorComb3
import Derived.Maps.AppendAt
namespace Go.Proofs.YtjeebcnjdhlcfaaDoor
section
open Go.RowKit
set_option linter.unusedVariables false
set_option linter.unusedSimpArgs false

theorem news1 (w : World) (u : Value) (t : TypeId) : ∀ j v, [u][j]? = some v → (w.alloc (.cells #[u] t)).cell? ((⟨w.heap.size, 0, none⟩ : Addr).add j) = some v := by
  intro j v hj
  match j, hj with
  | 0, hj => simp at hj; subst hj; simp [Addr.add]
theorem Tryd.infoInt : (Tryd.prog.info? 3).map (fun i => (i.zero, i.size, i.bytes)) = some (some (.int .i64 0), 1, 8) := by kernel_rfl

/-- the rows among the first k that have pairs -/
def fullTo (rows : List (List Pr)) (k : Nat) : List Nat := (List.range k).filter fun i => !(rowAt rows i).isEmpty
theorem fullTo_next (rows : List (List Pr)) (k : Nat) : fullTo rows (k + 1) = if rowAt rows k = [] then fullTo rows k else fullTo rows k ++ [k] := by
  unfold fullTo
  rw [List.range_succ, List.filter_append]
  by_cases h : rowAt rows k = []
  · have e : (!(rowAt rows k).isEmpty) = false := by rw [h]; rfl
    rw [if_pos h, List.filter_cons, if_neg (by rw [e]; exact Bool.false_ne_true)]; simp
  · have e : (!(rowAt rows k).isEmpty) = true := by
      rw [Bool.not_eq_true', List.isEmpty_eq_false_iff]; exact h
    rw [if_neg h, List.filter_cons, if_pos e]; rfl
theorem fullTo_len (rows : List (List Pr)) (k : Nat) : (fullTo rows k).length ≤ k := by
  unfold fullTo
  exact Nat.le_trans (List.length_filter_le _ _) (by simp)

/-- a row of numbers, made by the call -/
def TellsRow (l : List Nat) (w : World) (e : Ending) (w' : World) : Prop := (∃ v, e = .returned v ∧ w'.ownsRow w.heap.size 3 1 v l.length (l.map natV)) ∧ Below w.heap.size w w'

set_option maxRecDepth 100000 in
set_option maxHeartbeats 4000000 in
theorem inTurn_any (v : Value) (rows : List (List Pr)) (w : World) (h : PRowsV w v rows) (hr : rows.length ≤ 400) (hl : (fullS rows).length < 20) :
    Calls Tryd.prog 21 #[v] w (TellsRow (orderS rows) w) := by
  have H0 := Lib.hid h
  obtain ⟨i0, hi0, hz0, hz1, hz2⟩ := info_parts Tryd.infoInt
  obtain ⟨a, n, c, rfl, hn, hnc, hcm, hx⟩ := h.open
  have hn4 : n ≤ 400 := by have := hn.out; omega
  go_enter Tryd.func21, Tryd.ntmps21
  go_wp2_with fail
  have hb1 := (Below.refl w.heap.size w).alloc (Nat.le_refl _) (.cells #[.slice a n c] 23)
  have hcell : (w.alloc (.cells #[.slice a n c] 23)).cell? ⟨w.heap.size, 0, none⟩ = some (.slice a n c) := by simp
  have hs1 : w.heap.size < (w.alloc (.cells #[.slice a n c] 23)).heap.size := by simp
  have H1 := Lib.hid (PRowsV.below H0.out hb1)
  generalize w.alloc (.cells #[.slice a n c] 23) = w1 at hb1 hcell hs1 H1 ⊢
  go_loopw [8, 3] (fun i x w2 => ∃ (k : Nat), k ≤ n ∧ i = .int .i64 k ∧ w2.ownsRow w1.heap.size 3 1 x (fullTo rows k).length ((fullTo rows k).map natV) ∧ Below w1.heap.size w1 w2 ∧ (fullTo rows k = [] → x = .slice none 0 0)) (fun i _ _ => n - (intOf i).toNat)
  case atStart => exact ⟨0, Nat.zero_le _, rfl, World.ownsRow_nil _ _ _ _, Below.refl _ _, fun _ => rfl⟩
  case round =>
    obtain ⟨k, hk, rfl, hown, hb2, hnil⟩ := hrel
    rename World => w2
    have hlen := fullTo_len rows k
    by_cases hlt : k < n
    · have hkI : (k : Int) < (n : Int) := by omega
      obtain ⟨b1, o1, u1, rfl, c1, i1⟩ := hx.out k hlt
      have hlb := World.block_lt_of_cell? _ _ c1
      replace c1 := (hb2.cell (Nat.lt_of_lt_of_le hlb hb1.size)).trans ((hb1.cell hlb).trans c1)
      obtain ⟨a3, m3, k3, rfl, h3, h3c, h3m, _⟩ := i1.open
      have hnx := fullTo_next rows k
      have h3' := h3.out
      by_cases hz : m3 = 0
      · have hrow : rowAt rows k = [] := List.eq_nil_of_length_eq_zero (by rw [← h3']; exact hz)
        rw [if_pos hrow] at hnx
        have HN := Lib.hid hnx
        have HO := Lib.hid (And.intro hown hnil)
        subst hz
        clear hnx hown h3' hrow i1 hnil
        go_wp2_with fail
        go_roundw
        case rel => exact ⟨k + 1, by omega, by go_num, by rw [HN.out]; exact HO.out.1, hb2, by rw [HN.out]; exact HO.out.2⟩
        case measure => simp [intOf]; omega
      · have hrow : ¬ rowAt rows k = [] := fun e => hz (by rw [h3', e]; rfl)
        rw [if_neg hrow] at hnx
        have HN := Lib.hid hnx
        have hzI : (0 : Int) < (m3 : Int) := by omega
        clear hnx h3' hrow i1 hnil
        go_wp2_with (first | (at_builtin; refine wpList_append_own_at _ rfl _ _ 28 rfl w1.heap.size 3 i0 (.int .i64 0) 1 8 Tryd.underlying28 hi0 hz0 hz1 hz2 rfl (by decide) _ _ _ rfl (hown.alloc _) ⟨w2.heap.size, 0, none⟩ 1 1 [.int .i64 (k : Int)] rfl rfl (news1 _ _ _) ?c2 ?c3 ?c4 ?c5 ?_))
        case c2 => first | rfl | (intro u hu; simp at hu; rw [hu]; rfl)
        case c3 => unfold maxLen; omega
        case c4 => omega
        case c5 => have := hb2.size; simp; omega
        intro x' w3 ho3 hg3 _ _
        have hb3 := (hb2.alloc hb2.size (.cells #[.int .i64 (k : Int)] 3)).grown hg3 (by have := hb2.size; simp; omega) (fun j hj => (hown.lt j hj).1)
        have e3 : (fullTo rows k).map natV ++ [.int .i64 (k : Int)] = (fullTo rows (k + 1)).map natV := by rw [HN.out, List.map_append]; rfl
        have e4 : (fullTo rows k).length + 1 = (fullTo rows (k + 1)).length := by rw [HN.out, List.length_append]; rfl
        rw [e3, e4] at ho3
        have HO := Lib.hid ho3
        clear ho3 hg3 hown e3 e4
        go_wp2_with fail
        go_roundw
        case rel => exact ⟨k + 1, by omega, by go_num, HO.out, hb3, fun e => by rw [HN.out] at e; simp at e⟩
        case measure => simp [intOf]; omega
    · have hkn : fullTo rows k = fullS rows := by
        unfold fullTo fullS
        rw [← hn.out, show k = n by omega]
      rw [hkn] at hown
      have hc2 := (hb2.cell (p := ⟨w.heap.size, 0, none⟩) (by show w.heap.size < _; omega)).trans hcell
      have hbo := orderS_len rows
      by_cases hz : (fullS rows).length = 0
      · have h0 : orderS rows = [] := List.eq_nil_of_length_eq_zero (by omega)
        obtain rfl := hnil (by rw [hkn]; exact List.eq_nil_of_length_eq_zero hz)
        have HX := Lib.hid (fun f W => stable_none f W)
        have HZ := Lib.hid h0
        have hb3 := hb1.trans (hb2.mono (show w.heap.size ≤ w1.heap.size by omega))
        clear hkn hbo hz h0 hl hlen hown
        go_wp2_with (first | (go_at_call 27; refine (HX.out _ _).mono ?_; rintro e w9 ⟨rfl, rfl⟩))
        go_ret
        exact ⟨⟨_, rfl, by rw [HZ.out]; exact World.ownsRow_nil _ _ _ _⟩, hb3⟩
      · obtain ⟨g, cap, rfl, hg⟩ : ∃ g cap, u3 = .slice (some ⟨g, 0, none⟩) (fullS rows).length cap ∧ w1.heap.size ≤ g := by
          rcases hown.2 with ⟨_, h0⟩ | ⟨g, cap, cur, rfl, hg, _⟩
          · exact absurd h0 hz
          · exact ⟨g, cap, rfl, hg⟩
        have HX := Lib.hid (stable_any (.slice a n c) rows ⟨w.heap.size, 0, none⟩ w1 H1.out hcell g cap (fullS rows).length w2 hb2 hown rfl (by omega) hl)
        have hb3 := hb1.trans (hb2.mono (show w.heap.size ≤ w1.heap.size by omega))
        have hs2 := hb2.size
        clear hkn hz hlen hown hnil
        generalize (fullS rows).length = m at *
        go_wp2_with (first | (go_at_call 27; refine HX.out.mono ?_; rintro e w9 ⟨rfl, ho9, hg9⟩))
        go_ret
        refine ⟨⟨_, rfl, ?_⟩, hb3.grown hg9 (by omega) (fun k hk => by cases hk; omega)⟩
        rw [hbo]
        exact own_weaken ho9 (by omega)
end
end Go.Proofs.YtjeebcnjdhlcfaaDoor
