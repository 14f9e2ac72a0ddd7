/- graph.Comps: the components, sorted; the library's two sorts handed in. -/
import Derived.Test.YtijnekbhpdcemaaDoorGrComps1
import Derived.Test.YtijnekbhpdcemaaDoorGrWalk
namespace Go.Proofs.YtijnekbhpdcemaaDoor
open Go.RowKit Go.Sort
set_option linter.unusedVariables false
set_option linter.unusedSimpArgs false

def SortsI : Prop := ∀ (blk off cap : Nat) (zs : List Int) (w : World), Holds (Value.int .i64) w blk off zs.toArray → blk < w.heap.size → zs.length < 4611686018427387904 →
  Calls Tryd.prog 51 #[.slice (some ⟨blk, off, none⟩) zs.length cap] w fun e w' =>
    e = .returned (.tuple #[]) ∧ ∃ n os, w' = grow (putRow (Value.int .i64) (Sort.ahead w n) blk off (sortI zs).toArray) os
def SortsC : Prop := ∀ (m : Nat) (enc : Fin (m + 1) → Value) (F : Fin (m + 1) → Int) (blk cap : Nat) (d : Array (Fin (m + 1))) (W : World), (∀ i, (enc i).oneCell' = true) →
  (∀ (k : Nat) (os : Array Obj) (dk : Array (Fin (m + 1))), dk.size = d.size → ∀ x y, Calls Tryd.prog 53 #[enc x, enc y] (grow (putRow enc (Sort.ahead W k) blk 0 dk) os) fun e w' =>
    e = .returned (.int .i64 (cmpI (F x) (F y))) ∧ ∃ q, w' = (grow (putRow enc (Sort.ahead W k) blk 0 dk) os).drewN q) →
  Holds enc W blk 0 d → blk < W.heap.size → d.size < 4611686018427387904 →
  Calls Tryd.prog 52 #[.slice (some ⟨blk, 0, none⟩) d.size cap, .func (.func 53) #[] #[]] W fun e w' =>
    e = .returned (.tuple #[]) ∧ ∃ d' n os, PermIn 0 d.size d d' ∧ SortedIn (fun x y => decide (cmpI (F x) (F y) < 0)) 0 d.size d' ∧ w' = grow (putRow enc (Sort.ahead W n) blk 0 d') os
def SortsCNone : Prop := ∀ (p : Option Addr) (cap : Nat) (fv : Value) (w : World),
  Calls Tryd.prog 52 #[.slice p 0 cap, fv] w fun e w' => e = .returned (.tuple #[]) ∧ Below w.heap.size w w'

theorem sort_own (hS : SortsI) {w : World} {base : Nat} {v : Value} {l : List Int} (h : w.ownsRow base 3 1 v l.length (l.map (.int .i64))) (h0 : 0 < l.length) (hl : l.length ≤ 1000000) :
    Calls Tryd.prog 51 #[v] w fun e w' => e = .returned (.tuple #[]) ∧ w'.ownsRow base 3 1 v (sortI l).length ((sortI l).map (.int .i64)) ∧ w.grownBy w' v.ownBlock := by
  obtain ⟨g, cap, rfl, h1, h2, h3, h4⟩ := owns_at h h0
  have hH := holds_of_owns h (Value.int .i64) l.toArray (by simp) (by simp)
  refine (hS g 0 cap l w hH h2 (by omega)).mono ?_
  rintro e w' ⟨rfl, n, os, rfl⟩
  have hp : (sortI l).length = l.length := (sortI_perm l).length_eq
  have := put_own h (Value.int .i64) (sortI l).toArray (by simp [hp]) n os
  refine ⟨rfl, ?_, this.2⟩
  rw [hp]
  simpa using this.1

theorem ofFn_map {m : Nat} {β : Type} (f : Nat → β) : (Array.ofFn (fun i : Fin (m + 1) => i)).toList.map (fun i => f i.val) = (List.range (m + 1)).map f := by
  apply List.ext_getElem
  · simp
  · intro i h1 h2
    rw [List.getElem_map, List.getElem_map, List.getElem_range, Array.getElem_toList, Array.getElem_ofFn]
theorem range_getD {β : Type} (l : List β) (z : β) (n : Nat) (hn : l.length = n) : (List.range n).map (fun i => l.getD i z) = l := by
  subst hn
  apply List.ext_getElem
  · simp
  · intro i h1 h2
    rw [List.getElem_map, List.getElem_range, List.getD_eq_getElem?_getD, List.getElem?_eq_getElem h2]; rfl
theorem ext_all {β : Type} (d : Array β) (n : Nat) (h : d.size = n) : d.extract 0 n = d := by subst h; simp

theorem sortC_own (hS : SortsC) (hN : SortsCNone) {w : World} {base : Nat} {tag : Nat → Nat} {b : Nat} {rv : Value} {n ob lb cb : Nat} {ov cv : Value} {vs : List Value} {s : TS} (h : WalkV w base tag b rv n ob lb cb ov cv vs s) (hne : ∀ c, c < s.cps.length → s.cps.getD c [] ≠ []) (hn : s.cps.length ≤ 1000000) :
    Calls Tryd.prog 52 #[cv, .func (.func 53) #[] #[]] w fun e w' => e = .returned (.tuple #[]) ∧ (∃ C, C.Perm s.cps ∧ (∀ c d, c < d → d < C.length → (C.getD c []).getD 0 0 ≤ (C.getD d []).getD 0 0) ∧ RowsV w' cv C) ∧ Below base w w' := by
  have hown := h.rcv
  rcases Nat.eq_zero_or_pos s.cps.length with h0 | h0
  · rw [h0] at hown
    obtain ⟨a, c, rfl⟩ := owns_slice hown
    refine (hN a c _ w).mono ?_
    rintro e w' ⟨rfl, hb⟩
    have hnil : s.cps = [] := List.eq_nil_of_length_eq_zero h0
    have hvs : vs = [] := List.eq_nil_of_length_eq_zero (by have := hown.1; omega)
    refine ⟨rfl, ⟨[], by rw [hnil], fun c d _ hd => absurd hd (Nat.not_lt_zero _), ?_⟩, hb.mono h.bas⟩
    refine RowsV.below ⟨vs, CellsV.of_owns1 hown, by rw [hvs]; rfl, fun i hi => absurd hi (Nat.not_lt_zero _)⟩ hb
  · obtain ⟨m, hm⟩ : ∃ m, s.cps.length = m + 1 := ⟨s.cps.length - 1, by omega⟩
    rw [hm] at hown
    obtain ⟨g, cap, rfl, h1, h2, h3, h4⟩ := owns_at hown (by omega)
    have hvl : vs.length = m + 1 := by have := hown.1; omega
    have hd : (Array.ofFn (fun i : Fin (m + 1) => i)).size = m + 1 := by simp
    have hds : ∀ (d : Array (Fin (m + 1))), d.toList.map (fun i => vs.getD i.val undef) = d.toList.map (fun i => vs.getD i.val undef) := fun _ => rfl
    have hvs : vs = (Array.ofFn (fun i : Fin (m + 1) => i)).toList.map (fun i => vs.getD i.val undef) := by
      have := ofFn_map (m := m) (fun i => vs.getD i undef)
      rw [this, range_getD vs undef _ hvl]
    have hH : Holds (fun i : Fin (m + 1) => vs.getD i.val undef) w g 0 (Array.ofFn (fun i : Fin (m + 1) => i)) := holds_of_owns hown _ _ hd hvs
    have hmemW : ∀ (W : World), w.grownBy W (some g) → ∀ i : Fin (m + 1), IntsV W (vs.getD i.val undef) (s.cps.getD i.val []) := fun W hW i => by
      have hi : i.val < s.cps.length := by rw [hm]; exact i.isLt
      refine IntsV.of_owns (e := 3) (base := base) ((h.mem i.val hi).kept hW ?_)
      cases he : (vs.getD i.val undef).ownBlock with
      | none => exact .inl rfl
      | some k =>
        refine .inr (fun e => ?_)
        cases e
        have := h.tm i.val hi g he
        have := h.tcv g rfl
        omega
    have hpos : ∀ i : Fin (m + 1), 0 < (s.cps.getD i.val []).length := fun i => by
      have := hne i.val (by rw [hm]; exact i.isLt)
      exact List.length_pos_iff.2 this
    have hcon := hS m (fun i => vs.getD i.val undef) (fun i => (s.cps.getD i.val []).getD 0 0) g cap (Array.ofFn (fun i : Fin (m + 1) => i)) w
      (fun i => by
        obtain ⟨a, c, e⟩ := owns_slice (h.mem i.val (by rw [hm]; exact i.isLt))
        show (vs.getD i.val undef).oneCell' = true
        rw [e]; rfl)
      (fun k os dk hdk x y => firsts_any _ _ _ _ _ (hmemW _ (put_own hown _ dk (hdk.trans hd) k os).2 x) (hmemW _ (put_own hown _ dk (hdk.trans hd) k os).2 y) (hpos x) (hpos y))
      hH h2 (by rw [hd]; omega)
    rw [hd] at hcon
    refine hcon.mono ?_
    rintro e w' ⟨rfl, d', k, os, hperm, hsort, rfl⟩
    have hd' : d'.size = m + 1 := hperm.1.trans hd
    obtain ⟨ho, hg⟩ := put_own hown (fun i : Fin (m + 1) => vs.getD i.val undef) d' hd' k os
    have hpm : d'.toList.Perm (Array.ofFn (fun i : Fin (m + 1) => i)).toList := by
      have := hperm.2.2
      rw [ext_all d' _ hd', ext_all _ _ hd] at this
      exact this
    have hlen : (d'.toList.map (fun i => s.cps.getD i.val [])).length = m + 1 := by simp [hd']
    have hat : ∀ c (hc : c < d'.size), (d'.toList.map (fun i => s.cps.getD i.val [])).getD c [] = s.cps.getD (d'[c]).val [] := fun c hc => by
      rw [List.getD_eq_getElem?_getD, List.getElem?_map, Array.getElem?_toList, Array.getElem?_eq_getElem hc]; rfl
    refine ⟨rfl, ⟨d'.toList.map (fun i => s.cps.getD i.val []), ?_, fun c d hcd hdl => ?_, ?_⟩, ?_⟩
    · have := hpm.map (fun i : Fin (m + 1) => s.cps.getD i.val [])
      rw [ofFn_map (m := m) (fun i => s.cps.getD i []), range_getD s.cps [] _ hm] at this
      exact this
    · rw [hlen] at hdl
      have := hsort c d (Nat.zero_le _) hcd hdl
      rw [getElem!_pos d' d (by omega), getElem!_pos d' c (by omega)] at this
      rw [hat c (by omega), hat d (by omega)]
      simp only [decide_eq_false_iff_not] at this
      unfold cmpI at this
      by_cases hlt : (s.cps.getD (d'[d]).val []).getD 0 0 < (s.cps.getD (d'[c]).val []).getD 0 0
      · rw [if_pos hlt] at this; omega
      · omega
    · refine ⟨d'.toList.map (fun i => vs.getD i.val undef), ?_, by simp, fun i hi => ?_⟩
      · rw [hlen]; exact CellsV.of_owns1 ho
      · rw [hlen] at hi
        rw [hat i (by omega)]
        have e1 : (d'.toList.map (fun i => vs.getD i.val undef)).getD i undef = vs.getD (d'[i]'(by omega)).val undef := by
          rw [List.getD_eq_getElem?_getD, List.getElem?_map, Array.getElem?_toList, Array.getElem?_eq_getElem (by omega)]; rfl
        rw [e1]
        exact hmemW _ hg _
    · exact (Below.refl _ _).grown hg h.bas (fun k hk => by cases hk; exact h1)

end Go.Proofs.YtijnekbhpdcemaaDoor
