/- What the components are, in their order: there is but one such list. -/
import Derived.Test.YtijnekbhpdcemaaDoorGrCmp
namespace Go.Proofs.YtijnekbhpdcemaaDoor
open Go.RowKit Go.Sort
set_option linter.unusedVariables false
set_option linter.unusedSimpArgs false

def Mutual (L : List (List Int)) (v u : Int) : Prop := NodeOf L u ∧ Reaches L v u ∧ Reaches L u v
structure IsComps (L C : List (List Int)) : Prop where
  each : ∀ c, c < C.length → Rising (C.getD c []) ∧ C.getD c [] ≠ [] ∧ ∀ v ∈ C.getD c [], NodeOf L v ∧ ∀ u, u ∈ C.getD c [] ↔ Mutual L v u
  order : ∀ c d, c < d → d < C.length → (C.getD c []).getD 0 0 < (C.getD d []).getD 0 0
  all : ∀ v, NodeOf L v → ∃ c, c < C.length ∧ v ∈ C.getD c []

theorem first_mem {l : List Int} (h : l ≠ []) : l.getD 0 0 ∈ l := by
  cases l with
  | nil => exact absurd rfl h
  | cons x l => simp
theorem first_le {l : List Int} (h : Rising l) {u : Int} (hu : u ∈ l) : l.getD 0 0 ≤ u := by
  cases l with
  | nil => simp at hu
  | cons x l =>
    rcases List.mem_cons.1 hu with e | e
    · rw [e]; simp
    · have := (List.pairwise_cons.1 h).1 u e
      simp; omega
def firsts (C : List (List Int)) : List Int := C.map (fun l => l.getD 0 0)
theorem firsts_at {C : List (List Int)} {c : Nat} (hc : c < C.length) : (firsts C).getD c 0 = (C.getD c []).getD 0 0 := by
  unfold firsts
  rw [List.getD_eq_getElem?_getD, List.getElem?_map, List.getElem?_eq_getElem hc, List.getD_eq_getElem?_getD (l := C), List.getElem?_eq_getElem hc]; rfl
theorem IsComps.rising {L C : List (List Int)} (h : IsComps L C) : Rising (firsts C) := by
  rw [Rising, List.pairwise_iff_getElem]
  intro i j hi hj hij
  have hi' : i < C.length := by simpa [firsts] using hi
  have hj' : j < C.length := by simpa [firsts] using hj
  have := h.order i j hij hj'
  rw [← firsts_at hi', ← firsts_at hj', List.getD_eq_getElem?_getD, List.getElem?_eq_getElem hi, List.getD_eq_getElem?_getD, List.getElem?_eq_getElem hj] at this
  exact this
theorem IsComps.mem {L C : List (List Int)} (h : IsComps L C) (x : Int) : x ∈ firsts C ↔ NodeOf L x ∧ ∀ u, Mutual L x u → x ≤ u := by
  constructor
  · intro hx
    obtain ⟨c, hc, e⟩ := mem_get hx
    have hc' : c < C.length := by simpa [firsts] using hc
    rw [firsts_at hc'] at e
    obtain ⟨h1, h2, h3⟩ := h.each c hc'
    have hm := first_mem h2
    rw [e] at hm
    obtain ⟨h4, h5⟩ := h3 x hm
    refine ⟨h4, fun u hu => ?_⟩
    rw [← e]
    exact first_le h1 ((h5 u).2 hu)
  · rintro ⟨hx, hle⟩
    obtain ⟨c, hc, hm⟩ := h.all x hx
    obtain ⟨h1, h2, h3⟩ := h.each c hc
    have h4 := first_mem h2
    have h5 := first_le h1 hm
    have h6 := hle _ (((h3 x hm).2 _).1 h4)
    have h7 : (C.getD c []).getD 0 0 = x := by omega
    rw [← h7, ← firsts_at hc]
    exact get_mem (by simpa [firsts] using hc)
theorem isComps_one {L C D : List (List Int)} (hC : IsComps L C) (hD : IsComps L D) : C = D := by
  have hf : firsts C = firsts D := rising_ext hC.rising hD.rising (fun y => by rw [hC.mem, hD.mem])
  have hl : C.length = D.length := by
    have := congrArg List.length hf
    simpa [firsts] using this
  apply List.ext_getElem hl
  intro c h1 h2
  obtain ⟨a1, a2, a3⟩ := hC.each c h1
  obtain ⟨b1, b2, b3⟩ := hD.each c h2
  have e1 : (C.getD c []).getD 0 0 = (D.getD c []).getD 0 0 := by rw [← firsts_at h1, ← firsts_at h2, hf]
  have m1 := first_mem a2
  have m2 := first_mem b2
  rw [← e1] at m2
  have := rising_ext a1 b1 (fun y => by rw [(a3 _ m1).2 y, (b3 _ m2).2 y])
  rw [List.getD_eq_getElem?_getD, List.getD_eq_getElem?_getD, List.getElem?_eq_getElem h1, List.getElem?_eq_getElem h2] at this
  simpa using this

/-- the first ones sorted -/
def sortK (C : List (List Int)) (k : Nat) : List (List Int) := (C.take k).map sortI ++ C.drop k
theorem sortK_len (C : List (List Int)) (k : Nat) : (sortK C k).length = C.length := by simp [sortK]; omega
theorem sortK_next (C : List (List Int)) (k : Nat) (hk : k < C.length) : (sortK C k).set k (sortI ((sortK C k).getD k [])) = sortK C (k + 1) := by
  have hl : ((C.take k).map sortI).length = k := by simp; omega
  have hd : C.drop k = C[k] :: C.drop (k + 1) := List.drop_eq_getElem_cons hk
  unfold sortK
  have e1 : ((C.take k).map sortI ++ C.drop k).getD k [] = C[k] := by
    rw [List.getD_eq_getElem?_getD, List.getElem?_append_right (by omega), hl, Nat.sub_self, hd]; rfl
  rw [e1, List.set_append_right _ _ (by omega), hl, Nat.sub_self, hd, List.set_cons_zero, List.take_add_one, List.getElem?_eq_getElem hk, List.map_append, List.append_assoc]
  rfl
theorem sortK_all (C : List (List Int)) : sortK C C.length = C.map sortI := by simp [sortK]

/-- sorted each, then in the order of the first ones: the components -/
theorem scc_comps {L : List (List Int)} {cmp : Int → Int} {cps C : List (List Int)} (h : Scc L cmp cps) (hp : C.Perm (cps.map sortI)) (hs : ∀ c d, c < d → d < C.length → (C.getD c []).getD 0 0 ≤ (C.getD d []).getD 0 0) : IsComps L C := by
  have hmem : ∀ l ∈ C, ∃ c, c < cps.length ∧ l = sortI (cps.getD c []) := fun l hl => by
    obtain ⟨l0, h1, h2⟩ := List.mem_map.1 (hp.mem_iff.1 hl)
    obtain ⟨c, hc, e⟩ := List.getElem_of_mem h1
    exact ⟨c, hc, by rw [← h2, List.getD_eq_getElem?_getD, List.getElem?_eq_getElem hc]; simp [e]⟩
  have hsm : ∀ c v, v ∈ sortI (cps.getD c []) ↔ v ∈ cps.getD c [] := fun c v => (sortI_perm _).mem_iff
  have hget : ∀ c, c < C.length → C.getD c [] ∈ C := fun c hc => by
    rw [List.getD_eq_getElem?_getD, List.getElem?_eq_getElem hc]; exact List.getElem_mem hc
  have hcl : ∀ k, k < cps.length → ∀ v ∈ cps.getD k [], ∀ u, u ∈ cps.getD k [] ↔ Mutual L v u := fun k hk v hv u => by
    obtain ⟨_, _, h3⟩ := h.of k hk
    obtain ⟨n1, e1⟩ := h3 v hv
    constructor
    · intro hu
      obtain ⟨n2, e2⟩ := h3 u hu
      obtain ⟨r1, r2⟩ := (h.both n1 n2).1 (by omega)
      exact ⟨n2, r1, r2⟩
    · rintro ⟨n2, r1, r2⟩
      have e2 := (h.both n1 n2).2 ⟨r1, r2⟩
      have := (h.at_ u n2).2.2
      rw [e2, e1, Int.toNat_natCast] at this
      exact this
  have hnd : C.Nodup := by
    refine hp.nodup_iff.2 ?_
    rw [List.Nodup, List.pairwise_map, List.pairwise_iff_getElem]
    intro i j hi hj hij e
    have gi : cps.getD i [] = cps[i] := by rw [List.getD_eq_getElem?_getD, List.getElem?_eq_getElem hi]; rfl
    have gj : cps.getD j [] = cps[j] := by rw [List.getD_eq_getElem?_getD, List.getElem?_eq_getElem hj]; rfl
    obtain ⟨a1, a2, a3⟩ := h.of i hi
    obtain ⟨b1, b2, b3⟩ := h.of j hj
    have m1 := first_mem a1
    have m2 : (cps.getD i []).getD 0 0 ∈ cps.getD j [] := by rw [← hsm, gj, ← e, ← gi, hsm]; exact m1
    have := (a3 _ m1).2
    have := (b3 _ m2).2
    omega
  refine ⟨fun c hc => ?_, fun c d hcd hd => ?_, fun v hv => ?_⟩
  · obtain ⟨k, hk, e⟩ := hmem _ (hget c hc)
    obtain ⟨a1, a2, a3⟩ := h.of k hk
    rw [e]
    refine ⟨sortI_rising a2, fun e0 => ?_, fun v hv => ?_⟩
    · have := (hsm k ((cps.getD k []).getD 0 0)).2 (first_mem a1)
      rw [e0] at this; simp at this
    · have hv' := (hsm k v).1 hv
      exact ⟨(a3 v hv').1, fun u => by rw [hsm]; exact hcl k hk v hv' u⟩
  · have h1 := hs c d hcd hd
    rcases Int.lt_or_eq_of_le h1 with h2 | h2
    · exact h2
    · exfalso
      obtain ⟨k, hk, e⟩ := hmem _ (hget c (by omega))
      obtain ⟨k', hk', e'⟩ := hmem _ (hget d hd)
      have f1 : (sortI (cps.getD k [])).getD 0 0 ∈ cps.getD k [] := by
        rw [← hsm]
        refine first_mem (fun e0 => ?_)
        have := (hsm k ((cps.getD k []).getD 0 0)).2 (first_mem (h.of k hk).1)
        rw [e0] at this; simp at this
      have f2 : (sortI (cps.getD k' [])).getD 0 0 ∈ cps.getD k' [] := by
        rw [← hsm]
        refine first_mem (fun e0 => ?_)
        have := (hsm k' ((cps.getD k' []).getD 0 0)).2 (first_mem (h.of k' hk').1)
        rw [e0] at this; simp at this
      rw [e, e'] at h2
      rw [h2] at f1
      have e1 := ((h.of k hk).2.2 _ f1).2
      have e2 := ((h.of k' hk').2.2 _ f2).2
      have : k = k' := by omega
      subst this
      rw [← e'] at e
      have hnd' := List.pairwise_iff_getElem.1 hnd c d (by omega) hd hcd
      rw [List.getD_eq_getElem?_getD, List.getD_eq_getElem?_getD, List.getElem?_eq_getElem (show c < C.length by omega), List.getElem?_eq_getElem hd] at e
      exact hnd' (by simpa using e)
  · obtain ⟨h1, h2, h3⟩ := h.at_ v hv
    have hk : (cmp v).toNat < cps.length := by omega
    have hm : sortI (cps.getD (cmp v).toNat []) ∈ C := hp.mem_iff.2 (List.mem_map.2 ⟨cps.getD (cmp v).toNat [], by rw [List.getD_eq_getElem?_getD, List.getElem?_eq_getElem hk]; exact List.getElem_mem hk, rfl⟩)
    obtain ⟨c, hc, e⟩ := List.getElem_of_mem hm
    refine ⟨c, hc, ?_⟩
    rw [List.getD_eq_getElem?_getD, List.getElem?_eq_getElem hc]
    show v ∈ C[c]
    rw [e, hsm]; exact h3

end Go.Proofs.YtijnekbhpdcemaaDoor
