/- Components by Tarjan's way: a node's way ends. -/
import Derived.Test.YtijnekbhpdcemaaDoorGrTarjan
namespace Go.Proofs.YtijnekbhpdcemaaDoor
open Go.RowKit
set_option linter.unusedVariables false
set_option linter.unusedSimpArgs false

/-- the lows as they may stand once `i` has ended: those behind it know of it -/
structure Passed (L : List (List Int)) (s : TS) (i : Int) (W : List Int) (l' : Int → Int) : Prop where
  le : ∀ x ∈ W, l' x ≤ s.low x
  head : ∀ x, W.head? = some x → l' x ≤ s.low i
  wit : ∀ x ∈ W, ∃ u ∈ s.opn, s.ord u = l' x ∧ Reaches L x u

theorem pop_low {L : List (List Int)} {s : TS} {i : Int} {W : List Int} (h : Tj L s (i :: W)) : ∀ x ∈ W, s.ord x < s.ord i := (List.pairwise_cons.1 h.wrise).1
/-- in what is left the node ahead of the top is the top's own -/
theorem pop_head {L : List (List Int)} {s : TS} {i p v : Int} {W : List Int} (h : Tj L s (i :: W)) (hp : p ∈ W) (hv : s.ord i ≤ s.ord v) (ho : ∀ y ∈ W, s.ord y ≤ s.ord v → s.ord y ≤ s.ord p) : W.head? = some p := by
  have hlow := pop_low h
  have hw2 := (List.pairwise_cons.1 h.wrise).2
  have hopen := h.wopen
  cases W with
  | nil => simp at hp
  | cons a W =>
    have h1 : s.ord a ≤ s.ord p := ho a (by simp) (by have := hlow a (by simp); omega)
    have h2 : a = p := by
      rcases List.mem_cons.1 hp with e | hp2
      · exact e.symm
      · have := (List.pairwise_cons.1 hw2).1 p hp2; omega
    rw [h2]; rfl

def TS.lows (s : TS) (l' : Int → Int) : TS := { s with low := l' }
theorem Tj.keep {L : List (List Int)} {s : TS} {i : Int} {W : List Int} {l' : Int → Int} (h : Tj L s (i :: W)) (hf : Full L s i) (hp : Passed L s i W l') (hne : s.low i ≠ s.ord i) : Tj L (s.lows l') W := by
  have hlow := pop_low h
  obtain ⟨li, u0, hu0, hu1, hu2⟩ := h.low1 i (by simp)
  have hi : i ∈ s.opn := h.wopen i (by simp)
  exact {
    node := h.node
    met0 := h.met0
    rise := h.rise
    wrise := (List.pairwise_cons.1 h.wrise).2
    wopen := fun x hx => h.wopen x (by simp [hx])
    vis := h.vis
    opc := h.opc
    c1 := h.c1
    c2 := h.c2
    cedge := h.cedge
    csame := h.csame
    down := fun x hx => h.down x (by simp [hx])
    up := fun v hv => by
      obtain ⟨x, hx, h1, h2⟩ := h.up v hv
      rcases List.mem_cons.1 hx with e | hx2
      · subst e
        obtain ⟨y, hy, g1, g2⟩ := h.up u0 hu0
        rcases List.mem_cons.1 hy with e | hy2
        · subst e; omega
        · exact ⟨y, hy2, by show s.ord y ≤ s.ord v; have := hlow y hy2; omega, h2.trans (hu2.trans g2)⟩
      · exact ⟨x, hx2, h1, h2⟩
    fin := fun v hv hvw u hu => by
      by_cases e : v = i
      · subst e
        obtain ⟨f1, f2⟩ := hf u hu
        refine ⟨f1, fun ho x hx hown => ?_⟩
        have := hp.head x (pop_head h hx (Int.le_refl _) hown.2)
        exact Int.le_trans this (f2 ho)
      · obtain ⟨f1, f2⟩ := h.fin v hv (by simp [e, hvw]) u hu
        refine ⟨f1, fun ho x hx hown => ?_⟩
        by_cases hle : s.ord i ≤ s.ord v
        · have h1 := hp.head x (pop_head h hx hle hown.2)
          have h2 := f2 ho i (by simp) ⟨hle, fun y hy _ => by
            rcases List.mem_cons.1 hy with e | hy2
            · rw [e]; exact Int.le_refl _
            · have := hlow y hy2; omega⟩
          exact Int.le_trans h1 h2
        · have h2 := f2 ho x (by simp [hx]) ⟨hown.1, fun y hy hyv => by
            rcases List.mem_cons.1 hy with e | hy2
            · rw [e] at hyv; exact absurd hyv hle
            · exact hown.2 y hy2 hyv⟩
          exact Int.le_trans (hp.le x hx) h2
    low1 := fun x hx => ⟨Int.le_trans (hp.le x hx) (h.low1 x (by simp [hx])).1, hp.wit x hx⟩ }

theorem Tj.last {L : List (List Int)} {s : TS} {i : Int} (h : Tj L s [i]) : s.low i = s.ord i := by
  obtain ⟨li, u, hu, hu1, hu2⟩ := h.low1 i (by simp)
  obtain ⟨x, hx, h1, h2⟩ := h.up u hu
  simp at hx; subst hx; omega

/-- a component is made of the open nodes from `i` on -/
def TS.close (s : TS) (A M : List Int) : TS := { s with cmp := fun v => if v ∈ M then (s.cps.length : Int) else s.cmp v, opn := A, cps := s.cps ++ [M] }
theorem split_mem {s : TS} {A B : List Int} {i : Int} (hr : (A ++ i :: B).Pairwise (fun a b => s.ord a < s.ord b)) : (∀ v ∈ A, s.ord v < s.ord i) ∧ (∀ v ∈ i :: B, s.ord i ≤ s.ord v) := by
  rw [List.pairwise_append] at hr
  refine ⟨fun v hv => hr.2.2 v hv i (by simp), fun v hv => ?_⟩
  rcases List.mem_cons.1 hv with e | hv
  · rw [e]; exact Int.le_refl _
  · have := (List.pairwise_cons.1 hr.2.1).1 v hv; omega

theorem getD_snoc_lt {l : List (List Int)} {x : List Int} {c : Nat} (h : c < l.length) : (l ++ [x]).getD c [] = l.getD c [] := by
  rw [List.getD_eq_getElem?_getD, List.getElem?_append_left h, ← List.getD_eq_getElem?_getD]
theorem getD_snoc_eq {l : List (List Int)} {x : List Int} : (l ++ [x]).getD l.length [] = x := by
  rw [List.getD_eq_getElem?_getD, List.getElem?_append_right (by omega)]; simp

theorem Tj.close {L : List (List Int)} {s : TS} {i : Int} {W A B : List Int} {l' : Int → Int} (h : Tj L s (i :: W)) (hf : Full L s i) (hp : Passed L s i W l') (heq : s.low i = s.ord i) (hs : s.opn = A ++ i :: B) :
    Tj L ((s.lows l').close A (i :: B)) W := by
  have hlow := pop_low h
  have hr := h.rise
  rw [hs] at hr
  obtain ⟨sA, sB⟩ := split_mem hr
  have hmo : ∀ v, v ∈ s.opn ↔ v ∈ A ∨ v ∈ i :: B := fun v => by rw [hs]; exact List.mem_append
  have hlast : ∀ v ∈ s.opn, s.ord i ≤ s.ord v → v ∈ i :: B := fun v hv hle => by
    rcases (hmo v).1 hv with hv | hv
    · have := sA v hv; omega
    · exact hv
  have hA : ∀ v ∈ A, v ∉ i :: B := fun v hv hc => by have := sA v hv; have := sB v hc; omega
  have hcl : ∀ v, 0 ≤ s.cmp v → v ∉ i :: B := fun v hv hc => by have := h.opc v ((hmo v).2 (.inr hc)); omega
  -- all successors of what is closed
  have hall : ∀ v ∈ i :: B, ∀ u, Edge L v u → s.ord u ≠ 0 ∧ (u ∈ s.opn → u ∈ i :: B) := fun v hv u hu => by
    by_cases e : v = i
    · subst e
      obtain ⟨f1, f2⟩ := hf u hu
      exact ⟨f1, fun ho => hlast u ho (by have := f2 ho; omega)⟩
    · have hvW : v ∉ W := fun hc => by have := hlow v hc; have := sB v hv; omega
      obtain ⟨f1, f2⟩ := h.fin v ((hmo v).2 (.inr hv)) (by simp [e, hvW]) u hu
      refine ⟨f1, fun ho => hlast u ho ?_⟩
      have := f2 ho i (by simp) ⟨sB v hv, fun y hy _ => by
        rcases List.mem_cons.1 hy with e | hy2
        · rw [e]; exact Int.le_refl _
        · have := hlow y hy2; omega⟩
      omega
  have cin : ∀ v, v ∈ i :: B → ((s.lows l').close A (i :: B)).cmp v = s.cps.length := fun v hv => by simp only [TS.close, TS.lows]; rw [if_pos hv]
  have cout : ∀ v, v ∉ i :: B → ((s.lows l').close A (i :: B)).cmp v = s.cmp v := fun v hv => by simp only [TS.close, TS.lows]; rw [if_neg hv]
  have hlen : ((s.lows l').close A (i :: B)).cps.length = s.cps.length + 1 := by simp [TS.close, TS.lows]
  have hAl : ∀ x ∈ W, x ∈ A := fun x hx => by
    rcases (hmo x).1 (h.wopen x (by simp [hx])) with h1 | h1
    · exact h1
    · have := sB x h1; have := hlow x hx; omega
  exact {
    node := fun v hv => h.node v ((hmo v).2 (.inl hv))
    met0 := h.met0
    rise := (List.pairwise_append.1 hr).1
    wrise := (List.pairwise_cons.1 h.wrise).2
    wopen := hAl
    vis := fun v => by
      show s.ord v ≠ 0 ↔ v ∈ A ∨ _
      rw [h.vis v, hmo v]
      by_cases e : v ∈ i :: B
      · rw [cin v e]
        constructor
        · intro _; right; omega
        · intro _; exact .inl (.inr e)
      · rw [cout v e]
        constructor
        · rintro ((h1 | h1) | h1)
          · exact .inl h1
          · exact absurd h1 e
          · exact .inr h1
        · rintro (h1 | h1)
          · exact .inl (.inl h1)
          · exact .inr h1
    opc := fun v hv => by rw [cout v (hA v hv)]; exact h.opc v ((hmo v).2 (.inl hv))
    c1 := fun v hv => by
      by_cases e : v ∈ i :: B
      · refine ⟨h.node v ((hmo v).2 (.inr e)), ?_, ?_⟩
        · rw [cin v e, hlen]; omega
        · rw [cin v e]
          show v ∈ (s.cps ++ [i :: B]).getD _ []
          rw [Int.toNat_natCast, getD_snoc_eq]; exact e
      · rw [cout v e] at hv
        obtain ⟨g1, g2, g3⟩ := h.c1 v hv
        refine ⟨g1, ?_, ?_⟩
        · rw [cout v e, hlen]; omega
        · rw [cout v e]
          show v ∈ (s.cps ++ [i :: B]).getD _ []
          rw [getD_snoc_lt (by omega)]; exact g3
    c2 := fun c hc => by
      rw [hlen] at hc
      show (s.cps ++ [i :: B]).getD c [] ≠ [] ∧ ((s.cps ++ [i :: B]).getD c []).Nodup ∧ ∀ v ∈ (s.cps ++ [i :: B]).getD c [], _
      by_cases e : c = s.cps.length
      · rw [e, getD_snoc_eq]
        refine ⟨by simp, ?_, fun v hv => cin v hv⟩
        have := (List.pairwise_append.1 hr).2.1
        refine this.imp ?_
        intro a b hab e2; subst e2; omega
      · rw [getD_snoc_lt (by omega)]
        obtain ⟨g1, g2, g3⟩ := h.c2 c (by omega)
        refine ⟨g1, g2, fun v hv => ?_⟩
        have := g3 v hv
        rw [cout v (hcl v (by omega))]; exact this
    cedge := fun v u hv hu => by
      by_cases e : v ∈ i :: B
      · obtain ⟨f1, f2⟩ := hall v e u hu
        rw [cin v e]
        by_cases e2 : u ∈ i :: B
        · rw [cin u e2]; omega
        · rw [cout u e2]
          rcases (h.vis u).1 f1 with g | g
          · exact absurd (f2 g) e2
          · have := (h.c1 u g).2.1; omega
      · rw [cout v e] at hv ⊢
        obtain ⟨g1, g2⟩ := h.cedge v u hv hu
        rw [cout u (hcl u g1)]; exact ⟨g1, g2⟩
    csame := fun v u hv hc => by
      by_cases e : v ∈ i :: B
      · rw [cin v e] at hc
        have e2 : u ∈ i :: B := by
          by_cases e2 : u ∈ i :: B
          · exact e2
          · rw [cout u e2] at hc
            have := (h.c1 u (by omega)).2.1; omega
        have hi : i ∈ s.opn := h.wopen i (by simp)
        obtain ⟨x, hx, h1, h2⟩ := h.up v ((hmo v).2 (.inr e))
        have hxi : s.ord x ≤ s.ord i := by
          rcases List.mem_cons.1 hx with e3 | hx2
          · rw [e3]; exact Int.le_refl _
          · have := hlow x hx2; omega
        exact h2.trans ((h.down x hx i hi hxi).trans (h.down i (by simp) u ((hmo u).2 (.inr e2)) (sB u e2)))
      · rw [cout v e] at hv hc
        have e2 : u ∉ i :: B := fun hc2 => by
          rw [cin u hc2] at hc
          have := (h.c1 v hv).2.1; omega
        rw [cout u e2] at hc
        exact h.csame v u hv hc
    down := fun x hx v hv => h.down x (by simp [hx]) v ((hmo v).2 (.inl hv))
    up := fun v hv => by
      obtain ⟨x, hx, h1, h2⟩ := h.up v ((hmo v).2 (.inl hv))
      rcases List.mem_cons.1 hx with e | hx2
      · rw [e] at h1; have := sA v hv; omega
      · exact ⟨x, hx2, h1, h2⟩
    fin := fun v hv hvw u hu => by
      have hvi : s.ord v < s.ord i := sA v hv
      obtain ⟨f1, f2⟩ := h.fin v ((hmo v).2 (.inl hv)) (by
        simp only [List.mem_cons, not_or]; exact ⟨fun e => by rw [e] at hvi; omega, hvw⟩) u hu
      refine ⟨f1, fun ho x hx hown => ?_⟩
      have h2 := f2 ((hmo u).2 (.inl ho)) x (by simp [hx]) ⟨hown.1, fun y hy hyv => by
        rcases List.mem_cons.1 hy with e | hy2
        · rw [e] at hyv; omega
        · exact hown.2 y hy2 hyv⟩
      exact Int.le_trans (hp.le x hx) h2
    low1 := fun x hx => by
      have h1 := (h.low1 x (by simp [hx])).1
      have h2 := hp.le x hx
      obtain ⟨u, g1, g2, g3⟩ := hp.wit x hx
      refine ⟨Int.le_trans h2 h1, u, ?_, g2, g3⟩
      rcases (hmo u).1 g1 with g | g
      · exact g
      · have := sB u g; have := hlow x hx; omega }

theorem Seen.lows {L : List (List Int)} {s : TS} {way : List (Int × Nat)} {l' : Int → Int} (h : Seen L s way) (hl : ∀ p ∈ way, l' p.1 ≤ s.low p.1) : Seen L (s.lows l') way := fun p hp m hm u hu hn =>
  ⟨(h p hp m hm u hu hn).1, fun ho => Int.le_trans (hl p hp) ((h p hp m hm u hu hn).2 ho)⟩
theorem Seen.close {L : List (List Int)} {s : TS} {way : List (Int × Nat)} {A M : List Int} (h : Seen L s way) (hs : s.opn = A ++ M) : Seen L (s.close A M) way := fun p hp m hm u hu hn =>
  ⟨(h p hp m hm u hu hn).1, fun ho => (h p hp m hm u hu hn).2 (by rw [hs]; exact List.mem_append_left _ ho)⟩
theorem Seen.tail {L : List (List Int)} {s : TS} {way : List (Int × Nat)} {p : Int × Nat} (h : Seen L s (p :: way)) : Seen L s way := fun q hq => h q (by simp [hq])

/-- what the node ahead of the top comes to know -/
theorem passed_cons {L : List (List Int)} {s : TS} {i a : Int} {W : List Int} (h : Tj L s (i :: a :: W)) : Passed L s i (a :: W) (upd s.low a (min (s.low a) (s.low i))) := by
  have hi : i ∈ s.opn := h.wopen i (by simp)
  have ha : s.ord a < s.ord i := pop_low h a (by simp)
  have hai : Reaches L a i := h.down a (by simp) i hi (by omega)
  refine ⟨fun x hx => ?_, fun x hx => ?_, fun x hx => ?_⟩
  · unfold upd; split
    · next e => subst e; omega
    · exact Int.le_refl _
  · simp at hx; subst hx; rw [upd_at]; omega
  · by_cases e : x = a
    · subst e
      rw [upd_at]
      obtain ⟨_, u, h2, h3, h4⟩ := h.low1 x (by simp)
      obtain ⟨_, u', g2, g3, g4⟩ := h.low1 i (by simp)
      by_cases hle : s.low x ≤ s.low i
      · exact ⟨u, h2, by omega, h4⟩
      · exact ⟨u', g2, by omega, hai.trans g4⟩
    · rw [upd_ne _ _ e]
      obtain ⟨_, u, h2, h3, h4⟩ := h.low1 x (by simp; exact .inr (by simpa [e] using hx))
      exact ⟨u, h2, h3, h4⟩
theorem passed_nil {L : List (List Int)} {s : TS} {i : Int} : Passed L s i [] s.low := ⟨fun x hx => by simp at hx, fun x hx => by simp at hx, fun x hx => by simp at hx⟩

/-- what the components are in the end -/
structure Scc (L : List (List Int)) (cmp : Int → Int) (cps : List (List Int)) : Prop where
  at_ : ∀ v, NodeOf L v → 0 ≤ cmp v ∧ cmp v < cps.length ∧ v ∈ cps.getD (cmp v).toNat []
  of : ∀ c, c < cps.length → cps.getD c [] ≠ [] ∧ (cps.getD c []).Nodup ∧ ∀ v ∈ cps.getD c [], NodeOf L v ∧ cmp v = c
  edge : ∀ v u, NodeOf L v → Edge L v u → cmp u ≤ cmp v
  same : ∀ v u, NodeOf L v → NodeOf L u → cmp u = cmp v → Reaches L v u
theorem Tj.done {L : List (List Int)} {s : TS} (h : Tj L s []) (ha : ∀ v, NodeOf L v → s.ord v ≠ 0) : Scc L s.cmp s.cps := by
  have hno : ∀ v, v ∉ s.opn := fun v hv => by obtain ⟨x, hx, _⟩ := h.up v hv; simp at hx
  have hc : ∀ v, NodeOf L v → 0 ≤ s.cmp v := fun v hv => by
    rcases (h.vis v).1 (ha v hv) with g | g
    · exact absurd g (hno v)
    · exact g
  refine ⟨fun v hv => ⟨hc v hv, (h.c1 v (hc v hv)).2⟩, fun c hcl => ?_, fun v u hv hu => (h.cedge v u (hc v hv) hu).2, fun v u hv hu e => h.csame v u (hc v hv) e⟩
  obtain ⟨g1, g2, g3⟩ := h.c2 c hcl
  exact ⟨g1, g2, fun v hv => ⟨(h.c1 v (by have := g3 v hv; omega)).1, g3 v hv⟩⟩
theorem Scc.le {L : List (List Int)} {cmp : Int → Int} {cps : List (List Int)} (h : Scc L cmp cps) {v u : Int} (hv : NodeOf L v) (hr : Reaches L v u) : cmp u ≤ cmp v := by
  induction hr with
  | here => exact Int.le_refl _
  | step h1 e ih => exact Int.le_trans (h.edge _ _ (h1.node hv) e) ih
theorem Scc.both {L : List (List Int)} {cmp : Int → Int} {cps : List (List Int)} (h : Scc L cmp cps) {v u : Int} (hv : NodeOf L v) (hu : NodeOf L u) : cmp u = cmp v ↔ Reaches L v u ∧ Reaches L u v :=
  ⟨fun e => ⟨h.same v u hv hu e, h.same u v hu hv e.symm⟩, fun ⟨h1, h2⟩ => by have := h.le hv h1; have := h.le hu h2; omega⟩

end Go.Proofs.YtijnekbhpdcemaaDoor
