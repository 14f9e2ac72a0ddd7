/- What the laws of graphs ask, of lists alone: no program. -/
import Derived.Test.YtijnekbhpdcemaaDoorGrComps1
import Derived.Test.YtijnekbhpdcemaaDoorGrRefClose
namespace Go.Proofs.YtijnekbhpdcemaaDoor
open Go.RowKit
set_option linter.unusedVariables false
set_option linter.unusedSimpArgs false

theorem reaches_inv {L : List (List Int)} {a b : Int} (P : Int → Prop) (ha : P a) (hs : ∀ i j, P i → Edge L i j → P j) (h : Reaches L a b) : P b := by
  induction h with
  | here => exact ha
  | step _ e ih => exact hs _ _ ih e

def ones (n : Nat) : List (List Int) := (List.range n).map (fun i : Nat => [(i : Int)])
def upTo (n : Nat) : List Int := (List.range n).map (fun i : Nat => (i : Int))
theorem ones_len (n : Nat) : (ones n).length = n := by simp [ones]
theorem ones_at {n i : Nat} (hi : i < n) : (ones n).getD i [] = [(i : Int)] := by simp [ones, List.getD_eq_getElem?_getD, hi]
theorem upTo_mem (n : Nat) (y : Int) : y ∈ upTo n ↔ 0 ≤ y ∧ y < n := by
  unfold upTo
  rw [List.mem_map]
  constructor
  · rintro ⟨k, hk, rfl⟩
    have := List.mem_range.1 hk
    omega
  · rintro ⟨h0, h1⟩
    exact ⟨y.toNat, List.mem_range.2 (by omega), by omega⟩
theorem upTo_rising (n : Nat) : Rising (upTo n) := by
  unfold upTo Rising
  rw [List.pairwise_map]
  exact List.Pairwise.imp (fun {a b} (h : a < b) => by omega) List.pairwise_lt_range
theorem upTo_len (n : Nat) : (upTo n).length = n := by simp [upTo]
theorem isComps_ones {L : List (List Int)} (h : ∀ a b, NodeOf L a → Mutual L a b → a = b) : IsComps L (ones L.length) := by
  refine ⟨fun c hc => ?_, fun c d hcd hd => ?_, fun v hv => ?_⟩
  · rw [ones_len] at hc
    rw [ones_at hc]
    refine ⟨List.pairwise_singleton _ _, by simp, fun v hv => ?_⟩
    obtain rfl : v = c := by simpa using hv
    have hn : NodeOf L (c : Int) := ⟨by omega, by omega⟩
    refine ⟨hn, fun u => ?_⟩
    rw [List.mem_singleton]
    constructor
    · rintro rfl; exact ⟨hn, .here, .here⟩
    · intro hm; exact (h _ _ hn hm).symm
  · rw [ones_len] at hd
    rw [ones_at hd, ones_at (by omega)]
    simp; omega
  · refine ⟨v.toNat, by rw [ones_len]; have := hv.2; have := hv.1; omega, ?_⟩
    rw [ones_at (by have := hv.2; have := hv.1; omega)]
    have := hv.1; simp; omega
theorem isComps_all {L : List (List Int)} (hn : 0 < L.length) (h : ∀ a b, NodeOf L a → NodeOf L b → Reaches L a b) : IsComps L [upTo L.length] := by
  refine ⟨fun c hc => ?_, fun c d hcd hd => ?_, fun v hv => ?_⟩
  · obtain rfl : c = 0 := by simp at hc; omega
    show Rising (upTo L.length) ∧ upTo L.length ≠ [] ∧ ∀ v ∈ upTo L.length, _ ∧ ∀ u, u ∈ upTo L.length ↔ _
    refine ⟨upTo_rising _, fun e => ?_, fun v hv => ?_⟩
    · have := congrArg List.length e
      rw [upTo_len] at this
      have h0 : L.length = 0 := this
      omega
    · have hv' := (upTo_mem _ _).1 hv
      exact ⟨hv', fun u => by rw [upTo_mem]; exact ⟨fun hu => ⟨hu, h _ _ hv' hu, h _ _ hu hv'⟩, fun hu => hu.1⟩⟩
  · have hd1 : d < 1 := by simpa using hd
    omega
  · exact ⟨0, by simp, (upTo_mem _ _).2 hv⟩

/- all of them together -/
theorem isComps_flat {L C : List (List Int)} (h : IsComps L C) : C.flatten.length = L.length := by
  have hat : ∀ i (hi : i < C.length), C[i] = C.getD i [] := fun i hi => by rw [List.getD_eq_getElem?_getD, List.getElem?_eq_getElem hi]; rfl
  have hnd : C.flatten.Nodup := by
    refine List.pairwise_flatten.2 ⟨fun l hl => ?_, ?_⟩
    · obtain ⟨i, hi, rfl⟩ := List.getElem_of_mem hl
      rw [hat i hi]
      exact List.Pairwise.imp (fun {a b} (hab : a < b) => by omega) (h.each i hi).1
    · rw [List.pairwise_iff_getElem]
      intro i j hi hj hij x hx y hy e
      subst e
      rw [hat i hi] at hx
      rw [hat j hj] at hy
      obtain ⟨a1, a2, a3⟩ := h.each i hi
      obtain ⟨b1, b2, b3⟩ := h.each j hj
      have := rising_ext a1 b1 (fun u => by rw [(a3 x hx).2 u, (b3 x hy).2 u])
      have h2 := h.order i j hij hj
      rw [this] at h2
      omega
  have hr := sortI_rising hnd
  have he : sortI C.flatten = upTo L.length := rising_ext hr (upTo_rising _) (fun y => by
    rw [(sortI_perm _).mem_iff, upTo_mem, List.mem_flatten]
    constructor
    · rintro ⟨l, hl, hy⟩
      obtain ⟨i, hi, rfl⟩ := List.getElem_of_mem hl
      rw [hat i hi] at hy
      exact ((h.each i hi).2.2 y hy).1
    · intro hy
      obtain ⟨c, hc, hm⟩ := h.all y hy
      exact ⟨C[c], List.getElem_mem hc, by rw [hat c hc]; exact hm⟩)
  have := congrArg List.length he
  rw [upTo_len, (sortI_perm _).length_eq] at this
  exact this
theorem flat_step {C : List (List Int)} {c : Nat} (hc : c < C.length) : ((C.take (c + 1)).flatten).length = ((C.take c).flatten).length + (C.getD c []).length := by
  rw [List.take_add_one, List.getElem?_eq_getElem hc, List.flatten_append, List.length_append, List.getD_eq_getElem?_getD, List.getElem?_eq_getElem hc]
  simp
theorem flat_take {C : List (List Int)} {c : Nat} (hc : C.length ≤ c) : (C.take c).flatten.length = C.flatten.length := by rw [List.take_of_length_le hc]

/- along a chain -/
def chainL (n : Nat) (ring : Bool) : List (List Int) := (List.range n).map (fun i : Nat => [if i + 1 = n ∧ ring = true then 0 else (i : Int) + 1])
theorem chain_len (n : Nat) (ring : Bool) : (chainL n ring).length = n := by simp [chainL]
theorem chain_at {n : Nat} {ring : Bool} {i : Nat} (hi : i < n) : (chainL n ring).getD i [] = [if i + 1 = n ∧ ring = true then 0 else (i : Int) + 1] := by simp [chainL, List.getD_eq_getElem?_getD, hi]
theorem chain_edge {n : Nat} {ring : Bool} {i j : Int} (hi : 0 ≤ i ∧ i < n) : Edge (chainL n ring) i j ↔ (j = i + 1 ∧ j < n) ∨ (ring = true ∧ i + 1 = n ∧ j = 0) := by
  unfold Edge NodeOf
  rw [chain_len, chain_at (by omega), List.mem_singleton]
  by_cases h : i.toNat + 1 = n ∧ ring = true
  · rw [if_pos h]
    constructor
    · rintro ⟨rfl, _⟩; right; exact ⟨h.2, by omega, rfl⟩
    · rintro (⟨h1, h2⟩ | ⟨h1, h2, h3⟩)
      · omega
      · omega
  · rw [if_neg h]
    constructor
    · rintro ⟨rfl, h2⟩; left; omega
    · rintro (⟨h1, h2⟩ | ⟨h1, h2, h3⟩)
      · omega
      · exact absurd ⟨by omega, h1⟩ h
theorem chain_up {n : Nat} {ring : Bool} {i : Int} (hi : 0 ≤ i) : ∀ k : Nat, i + k < n → Reaches (chainL n ring) i (i + k)
  | 0, _ => by simpa using Reaches.here
  | k + 1, h => .step (chain_up hi k (by omega)) ((chain_edge (by omega)).2 (.inl ⟨by omega, by omega⟩))
theorem chain_reach {n : Nat} {i j : Int} (hi : 0 ≤ i ∧ i < n) : Reaches (chainL n false) i j ↔ i ≤ j ∧ j < n := by
  constructor
  · intro h
    refine reaches_inv (fun j => i ≤ j ∧ j < n) ⟨by omega, by omega⟩ (fun a b ha hab => ?_) h
    rcases (chain_edge (by omega)).1 hab with ⟨h1, h2⟩ | ⟨h1, _⟩
    · omega
    · cases h1
  · intro h
    have := chain_up (n := n) (ring := false) hi.1 (j - i).toNat (by omega)
    rwa [show i + ((j - i).toNat : Int) = j by omega] at this
theorem ring_reach {n : Nat} {i j : Int} (hi : 0 ≤ i ∧ i < n) (hj : 0 ≤ j ∧ j < n) : Reaches (chainL n true) i j := by
  have h1 := chain_up (n := n) (ring := true) hi.1 (n - 1 - i).toNat (by omega)
  rw [show i + ((n - 1 - i).toNat : Int) = n - 1 by omega] at h1
  have h2 : Edge (chainL n true) (n - 1) 0 := (chain_edge (by omega)).2 (.inr ⟨rfl, by omega, rfl⟩)
  have h3 := chain_up (n := n) (ring := true) (i := 0) (by omega) j.toNat (by omega)
  rw [show (0 : Int) + (j.toNat : Int) = j by omega] at h3
  exact (h1.trans (.one h2)).trans h3
def wantRow (n : Nat) (ring : Bool) (i : Nat) : List Int := (upTo n).filter (fun k => ring || decide ((i : Int) ≤ k))
def wantL (n : Nat) (ring : Bool) : List (List Int) := (List.range n).map (wantRow n ring)
theorem want_len (n : Nat) (ring : Bool) : (wantL n ring).length = n := by simp [wantL]
theorem want_at {n : Nat} {ring : Bool} {i : Nat} (hi : i < n) : (wantL n ring).getD i [] = wantRow n ring i := by simp [wantL, List.getD_eq_getElem?_getD, hi]
theorem want_close {n : Nat} {ring : Bool} (hn : n ≤ 1024) : IsClose (chainL n ring) (ones n) (wantL n ring) := by
  refine ⟨by rw [want_len, chain_len], fun i hi => ?_⟩
  rw [chain_len] at hi
  rw [want_at hi]
  refine ⟨(upTo_rising n).filter _, fun y => ?_⟩
  unfold wantRow
  rw [List.mem_filter, upTo_mem]
  have hnode : ∀ r, Reaches (chainL n ring) i r → 0 ≤ r ∧ r < n := fun r hr => by
    have := hr.node ⟨by omega, by rw [chain_len]; omega⟩
    rw [NodeOf, chain_len] at this; exact this
  constructor
  · rintro ⟨h1, h2⟩
    refine ⟨h1.1, by omega, y, ?_, by rw [ones_at (by omega)]; simp; omega⟩
    cases ring with
    | true => exact ring_reach ⟨by omega, by omega⟩ h1
    | false => exact (chain_reach ⟨by omega, by omega⟩).2 ⟨by simpa using h2, h1.2⟩
  · rintro ⟨h1, h2, r, hr, hy⟩
    have hrn := hnode r hr
    rw [ones_at (by omega), List.mem_singleton] at hy
    obtain rfl : r = y := by omega
    refine ⟨hrn, ?_⟩
    cases ring with
    | true => simp
    | false => simpa using ((chain_reach ⟨by omega, by omega⟩).1 hr).1
theorem chain_comps (n : Nat) : IsComps (chainL n false) (ones n) := by
  have := isComps_ones (L := chainL n false) (fun a b ha hb => by
    rw [NodeOf, chain_len] at ha
    obtain ⟨h1, h2, h3⟩ := hb
    rw [NodeOf, chain_len] at h1
    have := (chain_reach ha).1 h2
    have := (chain_reach h1).1 h3
    omega)
  rwa [chain_len] at this
theorem ring_comps {n : Nat} (hn : 0 < n) : IsComps (chainL n true) [upTo n] := by
  have := isComps_all (L := chainL n true) (by rw [chain_len]; exact hn) (fun a b ha hb => by
    rw [NodeOf, chain_len] at ha hb
    exact ring_reach ha hb)
  rwa [chain_len] at this

/- closed twice -/
theorem isClose_same {L S C : List (List Int)} (h : IsClose L S C) {a b : Nat} (ha : a < L.length) (hb : b < L.length) (h1 : Reaches L a b) (h2 : Reaches L b a) : C.getD a [] = C.getD b [] := by
  obtain ⟨r1, m1⟩ := h.row a ha
  obtain ⟨r2, m2⟩ := h.row b hb
  refine rising_ext r1 r2 (fun y => ?_)
  rw [m1, m2]
  exact ⟨fun ⟨e1, e2, r, hr, hy⟩ => ⟨e1, e2, r, h2.trans hr, hy⟩, fun ⟨e1, e2, r, hr, hy⟩ => ⟨e1, e2, r, h1.trans hr, hy⟩⟩
theorem isClose_twice {L S C : List (List Int)} (h : IsClose L S C) : IsClose L C C := by
  refine ⟨h.len, fun i hi => ⟨(h.row i hi).1, fun y => ?_⟩⟩
  constructor
  · intro hy
    obtain ⟨e1, e2, _⟩ := ((h.row i hi).2 y).1 hy
    exact ⟨e1, e2, i, .here, by simpa using hy⟩
  · rintro ⟨e1, e2, r, hr, hy⟩
    have hn := hr.node (show NodeOf L i from ⟨by omega, by omega⟩)
    have hlt : r.toNat < L.length := by have := hn.1; have := hn.2; omega
    obtain ⟨_, _, q, hq, hyq⟩ := ((h.row r.toNat hlt).2 y).1 hy
    rw [show ((r.toNat : Nat) : Int) = r by have := hn.1; omega] at hq
    exact ((h.row i hi).2 y).2 ⟨e1, e2, q, hr.trans hq, hyq⟩

/- many -/
def manyL (n : Nat) : List (List Int) := (List.range n).map (fun i : Nat => [(i : Int), (i : Int) - 1])
theorem many_len (n : Nat) : (manyL n).length = n := by simp [manyL]
theorem many_at {n i : Nat} (hi : i < n) : (manyL n).getD i [] = [(i : Int), (i : Int) - 1] := by simp [manyL, List.getD_eq_getElem?_getD, hi]
theorem many_edge {n : Nat} {i j : Int} (hi : 0 ≤ i ∧ i < n) : Edge (manyL n) i j ↔ j = i ∨ (j = i - 1 ∧ 0 ≤ j) := by
  unfold Edge NodeOf
  rw [many_len, many_at (by omega), List.mem_cons, List.mem_singleton]
  omega
theorem many_down {n : Nat} {i : Int} (hi : i < n) : ∀ k : Nat, 0 ≤ i - k → Reaches (manyL n) i (i - k)
  | 0, _ => by simpa using Reaches.here
  | k + 1, h => .step (many_down hi k (by omega)) ((many_edge (by omega)).2 (.inr ⟨by omega, by omega⟩))
theorem many_reach {n : Nat} {i j : Int} (hi : 0 ≤ i ∧ i < n) : Reaches (manyL n) i j ↔ 0 ≤ j ∧ j ≤ i := by
  constructor
  · intro h
    refine reaches_inv (fun j => 0 ≤ j ∧ j ≤ i) ⟨by omega, by omega⟩ (fun a b ha hab => ?_) h
    rcases (many_edge (by omega)).1 hab with h1 | ⟨h1, h2⟩
    · omega
    · omega
  · intro h
    have := many_down (n := n) hi.2 (i - j).toNat (by omega)
    rwa [show i - ((i - j).toNat : Int) = j by omega] at this
theorem many_comps (n : Nat) : IsComps (manyL n) (ones n) := by
  have := isComps_ones (L := manyL n) (fun a b ha hb => by
    rw [NodeOf, many_len] at ha
    obtain ⟨h1, h2, h3⟩ := hb
    rw [NodeOf, many_len] at h1
    have := (many_reach ha).1 h2
    have := (many_reach h1).1 h3
    omega)
  rwa [many_len] at this
theorem many_row {n : Nat} {C : List (List Int)} (h : IsClose (manyL n) [[7]] C) {i : Nat} (hi : i < n) : C.getD i [] = [7] := by
  obtain ⟨r1, m1⟩ := h.row i (by rw [many_len]; exact hi)
  refine rising_ext r1 (List.pairwise_singleton _ _) (fun y => ?_)
  rw [m1, List.mem_singleton]
  constructor
  · rintro ⟨e1, e2, r, hr, hy⟩
    have := (many_reach ⟨by omega, by omega⟩).1 hr
    by_cases e : r.toNat = 0
    · rw [e] at hy; simpa using hy
    · rw [List.getD_eq_getElem?_getD, List.getElem?_eq_none (by simp; omega)] at hy
      simp at hy
  · rintro rfl
    exact ⟨by omega, by omega, 0, (many_reach ⟨by omega, by omega⟩).2 ⟨by omega, by omega⟩, by simp⟩

/- what wakes asks -/
abbrev wkL : List (List Int) := [[1], [0], [0]]
theorem wk_edge {i j : Int} (hi : 0 ≤ i ∧ i < 3) : Edge wkL i j ↔ (i = 0 ∧ j = 1) ∨ (i = 1 ∧ j = 0) ∨ (i = 2 ∧ j = 0) := by
  obtain rfl | rfl | rfl : i = 0 ∨ i = 1 ∨ i = 2 := by omega
  · simp [Edge, NodeOf]; omega
  · simp [Edge, NodeOf]; omega
  · simp [Edge, NodeOf]; omega
theorem wk_reach {i j : Int} (hi : 0 ≤ i ∧ i < 3) : Reaches wkL i j ↔ j = 0 ∨ j = 1 ∨ (i = 2 ∧ j = 2) := by
  have e01 : Edge wkL 0 1 := (wk_edge (by omega)).2 (by omega)
  have e10 : Edge wkL 1 0 := (wk_edge (by omega)).2 (by omega)
  have e20 : Edge wkL 2 0 := (wk_edge (by omega)).2 (by omega)
  constructor
  · intro h
    refine reaches_inv (fun j => j = 0 ∨ j = 1 ∨ (i = 2 ∧ j = 2)) (by omega) (fun a b ha hab => ?_) h
    have := (wk_edge (by omega)).1 hab
    omega
  · intro h
    obtain rfl | rfl | rfl : i = 0 ∨ i = 1 ∨ i = 2 := by omega
    · obtain rfl | rfl : j = 0 ∨ j = 1 := by omega
      · exact .here
      · exact .one e01
    · obtain rfl | rfl : j = 0 ∨ j = 1 := by omega
      · exact .one e10
      · exact .here
    · obtain rfl | rfl | rfl : j = 0 ∨ j = 1 ∨ j = 2 := by omega
      · exact .one e20
      · exact .step (.one e20) e01
      · exact .here
theorem wk_close : IsClose wkL [[5], [6]] [[5, 6], [5, 6], [5, 6]] := by
  refine ⟨rfl, fun i hi => ?_⟩
  have hi3 : i < 3 := hi
  have hrow : ([[5, 6], [5, 6], [5, 6]] : List (List Int)).getD i [] = [5, 6] := by
    obtain rfl | rfl | rfl : i = 0 ∨ i = 1 ∨ i = 2 := by omega
    · rfl
    · rfl
    · rfl
  rw [hrow]
  refine ⟨by simp [Rising], fun y => ?_⟩
  constructor
  · intro hy
    have : y = 5 ∨ y = 6 := by simpa using hy
    rcases this with rfl | rfl
    · exact ⟨by omega, by omega, 0, (wk_reach (by omega)).2 (by omega), by simp⟩
    · exact ⟨by omega, by omega, 1, (wk_reach (by omega)).2 (by omega), by simp⟩
  · rintro ⟨_, _, r, hr, hy⟩
    rcases (wk_reach (by omega)).1 hr with rfl | rfl | ⟨_, rfl⟩
    · have : y = 5 := by simpa using hy
      simp [this]
    · have : y = 6 := by simpa using hy
      simp [this]
    · have : y ∈ ([] : List Int) := hy
      simp at this
theorem wk_comps : IsComps wkL [[0, 1], [2]] := by
  have key : ∀ a b, (0 ≤ a ∧ a < 3) → (Mutual wkL a b ↔ (a < 2 ∧ (b = 0 ∨ b = 1)) ∨ (a = 2 ∧ b = 2)) := fun a b ha => by
    constructor
    · rintro ⟨h1, h2, h3⟩
      have h1' : 0 ≤ b ∧ b < 3 := h1
      have := (wk_reach ha).1 h2
      have := (wk_reach h1').1 h3
      omega
    · intro h
      have h1' : 0 ≤ b ∧ b < 3 := by omega
      exact ⟨h1', (wk_reach ha).2 (by omega), (wk_reach h1').2 (by omega)⟩
  refine ⟨fun c hc => ?_, fun c d hcd hd => ?_, fun v hv => ?_⟩
  · have hc2 : c < 2 := hc
    obtain rfl | rfl : c = 0 ∨ c = 1 := by omega
    · show Rising [0, 1] ∧ [0, 1] ≠ [] ∧ ∀ v ∈ [(0 : Int), 1], NodeOf wkL v ∧ ∀ u, u ∈ [(0 : Int), 1] ↔ Mutual wkL v u
      refine ⟨by simp [Rising], by simp, fun v hv => ?_⟩
      have hv' : v = 0 ∨ v = 1 := by simpa using hv
      have hv3 : 0 ≤ v ∧ v < 3 := by omega
      exact ⟨hv3, fun u => by rw [key v u hv3]; simp; omega⟩
    · show Rising [2] ∧ [2] ≠ [] ∧ ∀ v ∈ [(2 : Int)], NodeOf wkL v ∧ ∀ u, u ∈ [(2 : Int)] ↔ Mutual wkL v u
      refine ⟨by simp [Rising], by simp, fun v hv => ?_⟩
      have hv' : v = 2 := by simpa using hv
      have hv3 : 0 ≤ v ∧ v < 3 := by omega
      exact ⟨hv3, fun u => by rw [key v u hv3]; simp; omega⟩
  · have hd2 : d < 2 := hd
    obtain ⟨rfl, rfl⟩ : c = 0 ∧ d = 1 := by omega
    decide
  · have hv3 : 0 ≤ v ∧ v < 3 := hv
    by_cases h : v = 2
    · exact ⟨1, by decide, by subst h; decide⟩
    · exact ⟨0, by decide, by
        obtain rfl | rfl : v = 0 ∨ v = 1 := by omega
        · decide
        · decide⟩

end Go.Proofs.YtijnekbhpdcemaaDoor
