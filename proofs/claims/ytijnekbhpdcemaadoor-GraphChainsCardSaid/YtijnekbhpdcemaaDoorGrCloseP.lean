/- What graph.Close's sets hold while they are filled: no program. -/
import Derived.Test.YtijnekbhpdcemaaDoorGrRefClose
import Derived.Test.YtijnekbhpdcemaaDoorBits3
namespace Go.Proofs.YtijnekbhpdcemaaDoor
open Go.RowKit
set_option linter.unusedVariables false
set_option linter.unusedSimpArgs false

abbrev orS (x y : List Nat) : List Nat := List.zipWith (· ||| ·) x y
theorem orS_len {x y : List Nat} (hx : x.length = 16) (hy : y.length = 16) : (orS x y).length = 16 := by rw [List.length_zipWith, hx, hy]; rfl
theorem orS_lt {x y : List Nat} (hx : ∀ u ∈ x, u < 2 ^ 64) (hy : ∀ u ∈ y, u < 2 ^ 64) : ∀ u ∈ orS x y, u < 2 ^ 64 := by
  intro u hu
  obtain ⟨k, hk, rfl⟩ := List.getElem_of_mem hu
  rw [List.getElem_zipWith]
  exact Nat.or_lt_two_pow (hx _ (List.getElem_mem _)) (hy _ (List.getElem_mem _))
theorem memS_orS (x y : List Nat) (hx : x.length = 16) (hy : y.length = 16) (i : Int) : memS (orS x y) i = (memS x i || memS y i) := by
  have hg : (orS x y).getD (i.toNat / 64) 0 = x.getD (i.toNat / 64) 0 ||| y.getD (i.toNat / 64) 0 := by
    by_cases h : i.toNat / 64 < 16
    · simp [List.getD_eq_getElem?_getD, List.getElem?_zipWith, List.getElem?_eq_getElem (show i.toNat / 64 < x.length by omega), List.getElem?_eq_getElem (show i.toNat / 64 < y.length by omega)]
    · simp [List.getD_eq_getElem?_getD, List.getElem?_zipWith, List.getElem?_eq_none (show x.length ≤ i.toNat / 64 by omega), List.getElem?_eq_none (show y.length ≤ i.toNat / 64 by omega)]
  unfold memS
  rw [hg, Nat.testBit_or, Bool.and_or_distrib_left]
theorem memS_range {ws : List Nat} {y : Int} (h : memS ws y = true) : 0 ≤ y ∧ y < 1024 := by
  unfold memS at h
  simp only [Bool.and_eq_true, decide_eq_true_eq] at h
  exact h.1

/-- y is told by a node that is reached from v -/
def Told (L S : List (List Int)) (v y : Int) : Prop := ∃ r, Reaches L v r ∧ y ∈ S.getD r.toNat []
/-- the set of a component, whole -/
def CSet (L S : List (List Int)) (M : List Int) (ws : List Nat) : Prop := ∀ v ∈ M, ∀ y, memS ws y = true ↔ 0 ≤ y ∧ y < 1024 ∧ Told L S v y
/-- the set of a component, its first k nodes looked at -/
structure PartC (L S : List (List Int)) (cmp : Int → Int) (M : List Int) (c : Nat) (F : Nat → List Nat) (ws : List Nat) (k : Nat) : Prop where
  sound : ∀ y, memS ws y = true → ∀ v ∈ M, Told L S v y
  own : ∀ i, i < k → i < M.length → ∀ y, 0 ≤ y → y < 1024 → y ∈ S.getD (M.getD i 0).toNat [] → memS ws y = true
  out : ∀ i, i < k → i < M.length → ∀ u, Edge L (M.getD i 0) u → cmp u < c → ∀ y, memS (F (cmp u).toNat) y = true → memS ws y = true
/-- .. and of the next one its own, and its first t successors -/
structure PartN (L S : List (List Int)) (cmp : Int → Int) (M : List Int) (c : Nat) (F : Nat → List Nat) (ws : List Nat) (k t : Nat) : Prop where
  part : PartC L S cmp M c F ws k
  own : ∀ y, 0 ≤ y → y < 1024 → y ∈ S.getD (M.getD k 0).toNat [] → memS ws y = true
  seen : ∀ m, m < t → ∀ u, (L.getD (M.getD k 0).toNat []).getD m 0 = u → NodeOf L u → cmp u < c → ∀ y, memS (F (cmp u).toNat) y = true → memS ws y = true

theorem PartC.start (L S : List (List Int)) (cmp : Int → Int) (M : List Int) (c : Nat) (F : Nat → List Nat) : PartC L S cmp M c F noWords 0 :=
  ⟨fun y hy => (by rw [memS_noWords] at hy; cases hy), fun i hi => absurd hi (Nat.not_lt_zero _), fun i hi => absurd hi (Nat.not_lt_zero _)⟩
theorem PartC.more {L S : List (List Int)} {cmp : Int → Int} {M : List Int} {c : Nat} {F : Nat → List Nat} {ws ws' : List Nat} {k : Nat} (h : PartC L S cmp M c F ws k) (hm : ∀ y, memS ws y = true → memS ws' y = true)
    (hs : ∀ y, memS ws' y = true → ∀ v ∈ M, Told L S v y) : PartC L S cmp M c F ws' k :=
  ⟨hs, fun i hi hl y h0 h1 hy => hm y (h.own i hi hl y h0 h1 hy), fun i hi hl u hu hc y hy => hm y (h.out i hi hl u hu hc y hy)⟩
theorem PartC.node {L S : List (List Int)} {cmp : Int → Int} {cps : List (List Int)} {c : Nat} {F : Nat → List Nat} {ws : List Nat} {k : Nat} (hS : Scc L cmp cps) (hc : c < cps.length) (h : PartC L S cmp (cps.getD c []) c F ws k) (hk : k < (cps.getD c []).length) (hl : ws.length = 16) :
    PartN L S cmp (cps.getD c []) c F (orS ws (ofS (S.getD ((cps.getD c []).getD k 0).toNat []))) k 0 := by
  have hm : ∀ y, memS (orS ws (ofS (S.getD ((cps.getD c []).getD k 0).toNat []))) y = true ↔ memS ws y = true ∨ memS (ofS (S.getD ((cps.getD c []).getD k 0).toNat [])) y = true := fun y => by
    rw [memS_orS _ _ hl (ofS_length _), Bool.or_eq_true]
  refine ⟨h.more (fun y hy => (hm y).2 (.inl hy)) (fun y hy v hv => ?_), fun y h0 h1 hy => (hm y).2 (.inr ((memS_ofS _ _).2 ⟨h0, h1, hy⟩)), fun m hm => absurd hm (Nat.not_lt_zero _)⟩
  rcases (hm y).1 hy with hy | hy
  · exact h.sound y hy v hv
  · have h3 := (hS.of c hc).2.2
    obtain ⟨n1, e1⟩ := h3 v hv
    obtain ⟨n2, e2⟩ := h3 _ (get_mem hk)
    exact ⟨_, hS.same v _ n1 n2 (by omega), ((memS_ofS _ _).1 hy).2.2⟩
theorem PartN.skip {L S : List (List Int)} {cmp : Int → Int} {M : List Int} {c : Nat} {F : Nat → List Nat} {ws : List Nat} {k t : Nat} (h : PartN L S cmp M c F ws k t) (hs : ∀ u, (L.getD (M.getD k 0).toNat []).getD t 0 = u → ¬ NodeOf L u) : PartN L S cmp M c F ws k (t + 1) :=
  ⟨h.part, h.own, fun m hm u hu hn hc y hy => by
    by_cases e : m = t
    · subst e; exact absurd hn (hs u hu)
    · exact h.seen m (by omega) u hu hn hc y hy⟩
theorem PartN.succ {L S : List (List Int)} {cmp : Int → Int} {cps : List (List Int)} {c : Nat} {F : Nat → List Nat} {ws : List Nat} {k t : Nat} {u : Int} (hS : Scc L cmp cps) (hc : c < cps.length) (hF : ∀ d, d < c → CSet L S (cps.getD d []) (F d)) (hF16 : ∀ d, d < cps.length → (F d).length = 16)
    (h : PartN L S cmp (cps.getD c []) c F ws k t) (hk : k < (cps.getD c []).length) (hl : ws.length = 16) (ht : t < (L.getD ((cps.getD c []).getD k 0).toNat []).length) (hu : (L.getD ((cps.getD c []).getD k 0).toNat []).getD t 0 = u) (hn : NodeOf L u) :
    PartN L S cmp (cps.getD c []) c F (orS ws (if (cmp u).toNat = c then ws else F (cmp u).toNat)) k (t + 1) := by
  have h3 := (hS.of c hc).2.2
  obtain ⟨n2, e2⟩ := h3 _ (get_mem hk)
  have hedge : Edge L ((cps.getD c []).getD k 0) u := edge_at ht hu hn
  obtain ⟨a0, a1, a2⟩ := hS.at_ u hn
  have hle := hS.edge _ u n2 hedge
  have hl2 : (if (cmp u).toNat = c then ws else F (cmp u).toNat).length = 16 := by
    split
    · exact hl
    · exact hF16 _ (by omega)
  have hm : ∀ y, memS (orS ws (if (cmp u).toNat = c then ws else F (cmp u).toNat)) y = true ↔ memS ws y = true ∨ memS (if (cmp u).toNat = c then ws else F (cmp u).toNat) y = true := fun y => by
    rw [memS_orS _ _ hl hl2, Bool.or_eq_true]
  refine ⟨h.part.more (fun y hy => (hm y).2 (.inl hy)) (fun y hy v hv => ?_), fun y h0 h1 hy => (hm y).2 (.inl (h.own y h0 h1 hy)), fun m hmt u' hu' hn' hc' y hy => ?_⟩
  · rcases (hm y).1 hy with hy | hy
    · exact h.part.sound y hy v hv
    · by_cases e : (cmp u).toNat = c
      · rw [if_pos e] at hy; exact h.part.sound y hy v hv
      · rw [if_neg e] at hy
        obtain ⟨_, _, r, hr, hyr⟩ := (hF (cmp u).toNat (by omega) u a2 y).1 hy
        obtain ⟨n1, e1⟩ := h3 v hv
        exact ⟨r, (hS.same v _ n1 n2 (by omega)).trans ((Reaches.one hedge).trans hr), hyr⟩
  · by_cases e : m = t
    · subst e
      rw [hu] at hu'; subst hu'
      refine (hm y).2 (.inr ?_)
      rw [if_neg (by omega)]; exact hy
    · exact (hm y).2 (.inl (h.seen m (by omega) u' hu' hn' hc' y hy))
theorem PartN.fin {L S : List (List Int)} {cmp : Int → Int} {M : List Int} {c : Nat} {F : Nat → List Nat} {ws : List Nat} {k t : Nat} (h : PartN L S cmp M c F ws k t) (ht : (L.getD (M.getD k 0).toNat []).length ≤ t) : PartC L S cmp M c F ws (k + 1) :=
  ⟨h.part.sound, fun i hi hl y h0 h1 hy => by
    by_cases e : i = k
    · subst e; exact h.own y h0 h1 hy
    · exact h.part.own i (by omega) hl y h0 h1 hy, fun i hi hl u hu hc y hy => by
    by_cases e : i = k
    · subst e
      obtain ⟨m, hm, e⟩ := edge_get hu
      exact h.seen m (by omega) u e hu.2 hc y hy
    · exact h.part.out i (by omega) hl u hu hc y hy⟩
theorem leaves {L : List (List Int)} {cmp : Int → Int} {cps : List (List Int)} (hS : Scc L cmp cps) {v r : Int} (hv : NodeOf L v) (h : Reaches L v r) (hlt : cmp r < cmp v) : ∃ a u, NodeOf L a ∧ cmp a = cmp v ∧ Edge L a u ∧ cmp u < cmp v ∧ Reaches L u r := by
  induction h with
  | here => omega
  | step h1 e ih =>
    rename_i i j
    have h2 := hS.le hv h1
    by_cases hi : cmp i = cmp v
    · exact ⟨i, j, h1.node hv, hi, e, hlt, .here⟩
    · obtain ⟨a, u, a1, a2, a3, a4, a5⟩ := ih (by omega)
      exact ⟨a, u, a1, a2, a3, a4, a5.step e⟩
theorem PartC.done {L S : List (List Int)} {cmp : Int → Int} {cps : List (List Int)} {c : Nat} {F : Nat → List Nat} {ws : List Nat} (hS : Scc L cmp cps) (hc : c < cps.length) (hF : ∀ d, d < c → CSet L S (cps.getD d []) (F d))
    (h : PartC L S cmp (cps.getD c []) c F ws (cps.getD c []).length) : CSet L S (cps.getD c []) ws := by
  intro v hv y
  have h3 := (hS.of c hc).2.2
  obtain ⟨n1, e1⟩ := h3 v hv
  constructor
  · intro hy
    exact ⟨(memS_range hy).1, (memS_range hy).2, h.sound y hy v hv⟩
  · rintro ⟨h0, h1, r, hr, hyr⟩
    have hle := hS.le n1 hr
    by_cases e : cmp r = c
    · have hrm := (hS.at_ r (hr.node n1)).2.2
      rw [e, Int.toNat_natCast] at hrm
      obtain ⟨i, hi, ei⟩ := mem_get hrm
      exact h.own i hi hi y h0 h1 (by rw [ei]; exact hyr)
    · obtain ⟨a, u, a1, a2, a3, a4, a5⟩ := leaves hS n1 hr (by omega)
      have ham := (hS.at_ a a1).2.2
      rw [a2, e1, Int.toNat_natCast] at ham
      obtain ⟨i, hi, ei⟩ := mem_get ham
      obtain ⟨u0, u1, u2⟩ := hS.at_ u a3.2
      refine h.out i hi hi u (by rw [ei]; exact a3) (by omega) y ?_
      exact (hF (cmp u).toNat (by omega) u u2 y).2 ⟨h0, h1, r, a5, hyr⟩
theorem cset_row {L S : List (List Int)} {M : List Int} {ws : List Nat} {i : Nat} (h : CSet L S M ws) (hi : (i : Int) ∈ M) : Rising (membersS ws) ∧ ∀ y, y ∈ membersS ws ↔ 0 ≤ y ∧ y < 1024 ∧ ∃ r, Reaches L i r ∧ y ∈ S.getD r.toNat [] :=
  ⟨members_rising _, fun y => by rw [mem_members]; exact h i hi y⟩

end Go.Proofs.YtijnekbhpdcemaaDoor
