/- A row of the call's own, behind a sort of the library's. -/
import Derived.Test.YtijnekbhpdcemaaDoorGrEnter
import Derived.Sort.Row
import Derived.Sort.Grow
namespace Go.Proofs.YtijnekbhpdcemaaDoor
section
open Go.RowKit Go.Sort
set_option linter.unusedVariables false
set_option linter.unusedSimpArgs false

section
variable {α : Type} [Inhabited α]
theorem put_heap (enc : α → Value) (w : World) (g k : Nat) (d : Array α) (os : Array Obj) (j : Nat) (hj : j < w.heap.size) :
    (grow (putRow enc (Sort.ahead w k) g 0 d) os).heap[j]? = if g = j then (w.heap[j]?).map (onCells (putCells enc 0 d)) else w.heap[j]? := by
  show (w.heap.modify g (onCells (putCells enc 0 d)) ++ os)[j]? = _
  rw [Array.getElem?_append_left (by simpa using hj), Array.getElem?_modify]
theorem put_own {w : World} {base g n cap : Nat} {e : TypeId} {xs : List Value} (h : w.ownsRow base e 1 (.slice (some ⟨g, 0, none⟩) n cap) n xs) (enc : α → Value) (d : Array α) (hd : d.size = n) (k : Nat) (os : Array Obj) :
    (grow (putRow enc (Sort.ahead w k) g 0 d) os).ownsRow base e 1 (.slice (some ⟨g, 0, none⟩) n cap) n (d.toList.map enc) ∧ w.grownBy (grow (putRow enc (Sort.ahead w k) g 0 d) os) (some g) := by
  have hg := (h.lt g rfl).2
  refine ⟨⟨by simp [hd], .inr ?_⟩, rfl, rfl, rfl, ?_, fun j hj hne => ?_⟩
  · rcases h.2 with ⟨h0, _⟩ | ⟨g', cap', cur, hv, hb, hh, hnc, hc, hs, ht⟩
    · cases h0
    · cases hv
      refine ⟨g, cap, putCells enc 0 d cur, rfl, hb, ?_, hnc, hc, by simp [putCells]; omega, ?_⟩
      · rw [put_heap enc w g k d os g hg, if_pos rfl, hh]; rfl
      · apply List.ext_getElem?
        intro i
        rw [List.getElem?_take, List.getElem?_map, Array.getElem?_toList, Array.getElem?_toList]
        by_cases hi : i < n
        · rw [if_pos (by omega)]
          have hic : i < cur.size := by omega
          have hid : i < d.size := by omega
          simp [putCells, hic, hid, hi, hd]
        · rw [if_neg (by omega)]
          rw [Array.getElem?_eq_none (by omega)]; rfl
  · show w.heap.size ≤ (w.heap.modify g _ ++ os).size
    simp
  · rw [put_heap enc w g k d os j hj, if_neg (fun e => hne (by rw [e]))]
end

theorem holds_of_owns {w : World} {base g n cap : Nat} {e : TypeId} {xs : List Value} {α : Type} [Inhabited α] (h : w.ownsRow base e 1 (.slice (some ⟨g, 0, none⟩) n cap) n xs) (enc : α → Value) (d : Array α) (hd : d.size = n) (hx : xs = d.toList.map enc) : Holds enc w g 0 d := by
  intro j hj
  refine ⟨?_, h.frozenAt _⟩
  rw [Nat.zero_add, h.cellAt j (by omega), hx, List.getElem?_map, Array.getElem?_toList, Array.getElem?_eq_getElem hj, getElem!_pos d j hj]
  rfl

/-- numbers, rising, by the library's sort -/
def sortI (l : List Int) : List Int := l.mergeSort (fun x y => decide (x ≤ y))
theorem sortI_perm (l : List Int) : (sortI l).Perm l := List.mergeSort_perm l _
theorem sortI_rising {l : List Int} (h : l.Nodup) : Rising (sortI l) := by
  have h1 : (sortI l).Pairwise (fun a b => decide (a ≤ b) = true) := List.pairwise_mergeSort (fun a b c h1 h2 => by simp at *; omega) (fun a b => by simp; omega) l
  have h2 : (sortI l).Nodup := (sortI_perm l).nodup_iff.2 h
  refine (h1.and h2).imp ?_
  intro a b hab
  have := hab.1
  simp at this
  have := hab.2
  omega

/-- one of the components sorted -/
theorem WalkV.sorted {w w' : World} {base : Nat} {tag : Nat → Nat} {b : Nat} {rv : Value} {n ob lb cb : Nat} {ov cv : Value} {vs : List Value} {s : TS} {c : Nat} {l : List Int} (h : WalkV w base tag b rv n ob lb cb ov cv vs s) (hc : c < s.cps.length)
    (hg : w.grownBy w' (vs.getD c undef).ownBlock) (ho : w'.ownsRow base 3 1 (vs.getD c undef) l.length (l.map (.int .i64))) :
    WalkV w' base tag b rv n ob lb cb ov cv vs { s with cps := s.cps.set c l } := by
  have same : ∀ k x, tag k = x → x ≠ 7 + c → k < w.heap.size → w'.heap[k]? = w.heap[k]? := fun k x hk hx hlt => hg.block k hlt (fun e => hx (by rw [← hk, h.tm c hc k e.symm]))
  exact {
    bas := Nat.le_trans h.bas hg.size
    low := h.low
    new := fun k hk => h.new k (Nat.le_trans hg.size hk)
    tb := h.tb
    to_ := h.to_
    tl := h.tl
    tc := h.tc
    tov := h.tov
    tcv := h.tcv
    tm := fun c' hc' => h.tm c' (by simpa using hc')
    rb := h.rb.of_block (same b 1 h.tb (by omega) h.rb.lt)
    ro := h.ro.of_block (same ob 2 h.to_ (by omega) h.ro.lt)
    rl := h.rl.of_block (same lb 3 h.tl (by omega) h.rl.lt)
    rc := h.rc.of_block (same cb 4 h.tc (by omega) h.rc.lt)
    rov := owns_block h.rov (fun k hk => same k 5 (h.tov k hk) (by omega) (h.rov.lt k hk).2)
    rcv := by
      have e : (s.cps.set c l).length = s.cps.length := by simp
      rw [e]
      exact owns_block h.rcv (fun k hk => same k 6 (h.tcv k hk) (by omega) (h.rcv.lt k hk).2)
    mem := fun c' hc' => by
      have hc2 : c' < s.cps.length := by simpa using hc'
      show w'.ownsRow base _ 1 (vs.getD c' undef) ((s.cps.set c l).getD c' []).length (((s.cps.set c l).getD c' []).map _)
      by_cases e : c = c'
      · subst e
        have e1 : (s.cps.set c l).getD c [] = l := by rw [List.getD_eq_getElem?_getD, List.getElem?_set, if_pos rfl, if_pos hc]; rfl
        rw [e1]
        exact ho
      · have e1 : (s.cps.set c l).getD c' [] = s.cps.getD c' [] := by rw [List.getD_eq_getElem?_getD, List.getElem?_set, if_neg e, ← List.getD_eq_getElem?_getD]
        rw [e1]
        exact owns_block (h.mem c' hc2) (fun k hk => same k _ (h.tm c' hc2 k hk) (by omega) ((h.mem c' hc2).lt k hk).2) }
end

section
open Go.RowKit
set_option linter.unusedVariables false
set_option linter.unusedSimpArgs false

def cmpI (a b : Int) : Int := if a < b then -1 else if b < a then 1 else 0

theorem isNaN_any (a : Int) (w : World) : Calls Tryd.prog 59 #[.int .i64 a] w fun e w' => e = .returned (.bool false) ∧ w' = w := by
  have h1 : (a != a) = false := by simp
  go_enter Tryd.func59, Tryd.ntmps59
  go_wp2_with (fail)
  go_ret
  exact ⟨rfl, rfl⟩
theorem compare_any (a b : Int) (w : World) : Calls Tryd.prog 54 #[.int .i64 a, .int .i64 b] w fun e w' => e = .returned (.int .i64 (cmpI a b)) ∧ w' = w := by
  have hN := Lib.hid isNaN_any
  rcases Int.lt_trichotomy a b with h | h | h
  · have hc : cmpI a b = -1 := by unfold cmpI; rw [if_pos h]
    rw [hc]; clear hc
    go_enter Tryd.func54, Tryd.ntmps54
    go_wp2_with (first | (go_at_call 59; refine (hN.out _ _).mono ?_; rintro e w9 ⟨rfl, rfl⟩))
    go_ret
    exact ⟨rfl, rfl⟩
  · subst h
    have hc : cmpI a a = 0 := by unfold cmpI; rw [if_neg (by omega), if_neg (by omega)]
    have h1 : ¬ a < a := by omega
    rw [hc]; clear hc
    go_enter Tryd.func54, Tryd.ntmps54
    go_wp2_with (first | (go_at_call 59; refine (hN.out _ _).mono ?_; rintro e w9 ⟨rfl, rfl⟩))
    go_ret
    exact ⟨rfl, rfl⟩
  · have hc : cmpI a b = 1 := by unfold cmpI; rw [if_neg (by omega), if_pos h]
    have h1 : ¬ a < b := by omega
    rw [hc]; clear hc
    go_enter Tryd.func54, Tryd.ntmps54
    go_wp2_with (first | (go_at_call 59; refine (hN.out _ _).mono ?_; rintro e w9 ⟨rfl, rfl⟩))
    go_ret
    exact ⟨rfl, rfl⟩

/-- the closure: of two slices that are not empty -/
theorem firsts_any (va vb : Value) (A B : List Int) (w : World) (ha : IntsV w va A) (hb : IntsV w vb B) (h1 : 0 < A.length) (h2 : 0 < B.length) :
    Calls Tryd.prog 53 #[va, vb] w fun e w' => e = .returned (.int .i64 (cmpI (A.getD 0 0) (B.getD 0 0))) ∧ ∃ q, w' = w.drewN q := by
  obtain ⟨a, n, c, rfl, hn, hnc, hcm, hax⟩ := ha.open
  obtain ⟨b, m, d, rfl, hm, hmc, hdm, hbx⟩ := hb.open
  have hn0 : 0 < n := by rw [hn.out]; exact h1
  have hm0 : 0 < m := by rw [hm.out]; exact h2
  obtain ⟨ba, oa, rfl, ca⟩ := hax.out 0 hn0
  obtain ⟨bb, ob, rfl, cb⟩ := hbx.out 0 hm0
  rw [Nat.add_zero] at ca cb
  generalize A.getD 0 0 = x at ca
  generalize B.getD 0 0 = y at cb
  have HX : Hid (∀ W : World, Calls Tryd.prog 54 #[.int .i64 x, .int .i64 y] W fun e w' => e = .returned (.int .i64 (cmpI x y)) ∧ ∃ n, w' = W.drewN n) := Lib.hid (fun W => (compare_any x y W).mono (fun _ _ ⟨h1, h2⟩ => ⟨h1, 0, h2⟩))
  have hnI : (0 : Int) < (n : Int) := by omega
  have hmI : (0 : Int) < (m : Int) := by omega
  clear hax hbx ha hb hn hm hnc hcm hmc hdm h1 h2
  go_enter Tryd.func53, Tryd.ntmps53
  go_wp2_with (fail)
  go_quiet (first | (go_at_call 54; refine Calls.quiet_of (HX.out _)))
  go_wp2_with (fail)
  go_ret
  exact ⟨rfl, _, rfl⟩
end

end Go.Proofs.YtijnekbhpdcemaaDoor
