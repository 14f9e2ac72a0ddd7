/- Components by Tarjan's way: what holds between two steps. -/
import Derived.Test.YtijnekbhpdcemaaDoorGrEdge
namespace Go.Proofs.YtijnekbhpdcemaaDoor
open Go.RowKit
set_option linter.unusedVariables false
set_option linter.unusedSimpArgs false

/-- orders, lows, components; the open nodes; the components; how many were met -/
structure TS where
  ord : Int → Int
  low : Int → Int
  cmp : Int → Int
  opn : List Int
  cps : List (List Int)
  met : Nat
def upd (f : Int → Int) (i x : Int) : Int → Int := fun v => if v = i then x else f v
/-- the last node of the way that was met no later than `v` -/
def Own (s : TS) (W : List Int) (x v : Int) : Prop := s.ord x ≤ s.ord v ∧ ∀ y ∈ W, s.ord y ≤ s.ord v → s.ord y ≤ s.ord x
structure Tj (L : List (List Int)) (s : TS) (W : List Int) : Prop where
  node : ∀ v ∈ s.opn, NodeOf L v
  met0 : ∀ v, 0 ≤ s.ord v ∧ s.ord v ≤ s.met
  rise : s.opn.Pairwise (fun a b => s.ord a < s.ord b)
  wrise : W.Pairwise (fun a b => s.ord b < s.ord a)
  wopen : ∀ x ∈ W, x ∈ s.opn
  vis : ∀ v, s.ord v ≠ 0 ↔ v ∈ s.opn ∨ 0 ≤ s.cmp v
  opc : ∀ v ∈ s.opn, s.cmp v < 0
  c1 : ∀ v, 0 ≤ s.cmp v → NodeOf L v ∧ s.cmp v < s.cps.length ∧ v ∈ s.cps.getD (s.cmp v).toNat []
  c2 : ∀ c, c < s.cps.length → s.cps.getD c [] ≠ [] ∧ (s.cps.getD c []).Nodup ∧ ∀ v ∈ s.cps.getD c [], s.cmp v = c
  cedge : ∀ v u, 0 ≤ s.cmp v → Edge L v u → 0 ≤ s.cmp u ∧ s.cmp u ≤ s.cmp v
  csame : ∀ v u, 0 ≤ s.cmp v → s.cmp u = s.cmp v → Reaches L v u
  down : ∀ x ∈ W, ∀ v ∈ s.opn, s.ord x ≤ s.ord v → Reaches L x v
  up : ∀ v ∈ s.opn, ∃ x ∈ W, s.ord x ≤ s.ord v ∧ Reaches L v x
  fin : ∀ v ∈ s.opn, v ∉ W → ∀ u, Edge L v u → s.ord u ≠ 0 ∧ (u ∈ s.opn → ∀ x ∈ W, Own s W x v → s.low x ≤ s.ord u)
  low1 : ∀ x ∈ W, s.low x ≤ s.ord x ∧ ∃ u ∈ s.opn, s.ord u = s.low x ∧ Reaches L x u
/-- what was looked at of the nodes on the way -/
def Seen (L : List (List Int)) (s : TS) (way : List (Int × Nat)) : Prop :=
  ∀ p ∈ way, ∀ m, m < p.2 → ∀ u, (L.getD p.1.toNat []).getD m 0 = u → NodeOf L u → s.ord u ≠ 0 ∧ (u ∈ s.opn → s.low p.1 ≤ s.ord u)
/-- all of a node's successors were looked at -/
def Full (L : List (List Int)) (s : TS) (i : Int) : Prop := ∀ u, Edge L i u → s.ord u ≠ 0 ∧ (u ∈ s.opn → s.low i ≤ s.ord u)

theorem rise_eq {s : TS} : ∀ {l : List Int}, l.Pairwise (fun a b => s.ord a < s.ord b) → ∀ {a b : Int}, a ∈ l → b ∈ l → s.ord a = s.ord b → a = b
  | [], _, _, _, h, _, _ => by simp at h
  | x :: l, hr, a, b, ha, hb, he => by
    have hr' := List.pairwise_cons.1 hr
    rcases List.mem_cons.1 ha with e | ha2
    · rcases List.mem_cons.1 hb with e2 | hb2
      · rw [e, e2]
      · have := hr'.1 b hb2; rw [e] at he; omega
    · rcases List.mem_cons.1 hb with e2 | hb2
      · have := hr'.1 a ha2; rw [e2] at he; omega
      · exact rise_eq hr'.2 ha2 hb2 he

def TS.start : TS := ⟨fun _ => 0, fun _ => 0, fun _ => -1, [], [], 0⟩
theorem Tj.start (L : List (List Int)) : Tj L TS.start [] where
  node := fun v hv => by simp [TS.start] at hv
  met0 := fun v => by simp [TS.start]
  rise := List.Pairwise.nil
  wrise := List.Pairwise.nil
  wopen := fun x hx => by simp at hx
  vis := fun v => by simp [TS.start]
  opc := fun v hv => by simp [TS.start] at hv
  c1 := fun v hv => by simp [TS.start] at hv
  c2 := fun c hc => by simp [TS.start] at hc
  cedge := fun v u hv => by simp [TS.start] at hv
  csame := fun v u hv => by simp [TS.start] at hv
  down := fun x hx => by simp at hx
  up := fun v hv => by simp [TS.start] at hv
  fin := fun v hv => by simp [TS.start] at hv
  low1 := fun x hx => by simp at hx

/-- a lower low of the node on the way -/
def TS.lower (s : TS) (i l : Int) : TS := { s with low := upd s.low i l }
theorem Tj.lower {L : List (List Int)} {s : TS} {W : List Int} {i l : Int} (h : Tj L s W) (hl : l ≤ s.low i) (hi : ∃ u ∈ s.opn, s.ord u = l ∧ Reaches L i u) : Tj L (s.lower i l) W where
  node := h.node
  met0 := h.met0
  rise := h.rise
  wrise := h.wrise
  wopen := h.wopen
  vis := h.vis
  opc := h.opc
  c1 := h.c1
  c2 := h.c2
  cedge := h.cedge
  csame := h.csame
  down := h.down
  up := h.up
  fin := fun v hv hw u hu => ⟨(h.fin v hv hw u hu).1, fun ho x hx hown => by
    have := (h.fin v hv hw u hu).2 ho x hx hown
    show upd s.low i l x ≤ _
    unfold upd; split
    · next e => subst e; exact Int.le_trans hl this
    · exact this⟩
  low1 := fun x hx => by
    have := h.low1 x hx
    show upd s.low i l x ≤ _ ∧ ∃ u ∈ s.opn, s.ord u = upd s.low i l x ∧ _
    unfold upd; split
    · next e => subst e; exact ⟨Int.le_trans hl this.1, hi⟩
    · exact this
theorem Seen.lower {L : List (List Int)} {s : TS} {way : List (Int × Nat)} {i l : Int} (h : Seen L s way) (hl : l ≤ s.low i) : Seen L (s.lower i l) way := fun p hp m hm u hu hn => ⟨(h p hp m hm u hu hn).1, fun ho => by
  have := (h p hp m hm u hu hn).2 ho
  show upd s.low i l p.1 ≤ _
  unfold upd; split
  · next e => rw [e] at this; exact Int.le_trans hl this
  · exact this⟩
theorem Seen.next {L : List (List Int)} {s : TS} {rest : List (Int × Nat)} {i : Int} {k : Nat} (h : Seen L s ((i, k) :: rest)) (hk : ∀ u, (L.getD i.toNat []).getD k 0 = u → NodeOf L u → s.ord u ≠ 0 ∧ (u ∈ s.opn → s.low i ≤ s.ord u)) : Seen L s ((i, k + 1) :: rest) := fun p hp m hm u hu hn => by
  rcases List.mem_cons.1 hp with rfl | hp
  · by_cases e : m = k
    · subst e; exact hk u hu hn
    · exact h (i, k) (by simp) m (by simp at hm; omega) u hu hn
  · exact h p (by simp [hp]) m hm u hu hn
theorem Seen.full {L : List (List Int)} {s : TS} {rest : List (Int × Nat)} {i : Int} {k : Nat} (h : Seen L s ((i, k) :: rest)) (hk : (L.getD i.toNat []).length ≤ k) : Full L s i := fun u hu => by
  obtain ⟨m, hm, e⟩ := edge_get hu
  exact h (i, k) (by simp) m (by show m < k; omega) u e hu.2

/-- a node is met -/
def TS.enter (s : TS) (r : Int) : TS := { s with ord := upd s.ord r (s.met + 1), low := upd s.low r (s.met + 1), opn := s.opn ++ [r], met := s.met + 1 }
theorem upd_at (f : Int → Int) (i x : Int) : upd f i x i = x := by simp [upd]
theorem upd_ne (f : Int → Int) {i v : Int} (x : Int) (h : v ≠ i) : upd f i x v = f v := by simp [upd, h]
theorem Tj.fresh {L : List (List Int)} {s : TS} {W : List Int} {r : Int} (h : Tj L s W) (h0 : s.ord r = 0) : r ∉ s.opn ∧ s.cmp r < 0 ∧ r ∉ W := by
  have h1 : ¬ (r ∈ s.opn ∨ 0 ≤ s.cmp r) := fun hc => (h.vis r).2 hc h0
  refine ⟨fun hc => h1 (.inl hc), by have := fun hc => h1 (.inr hc); omega, fun hc => h1 (.inl (h.wopen r hc))⟩
theorem Tj.enter {L : List (List Int)} {s : TS} {W : List Int} {r : Int} (h : Tj L s W) (hr : NodeOf L r) (h0 : s.ord r = 0) (hw : ∀ x ∈ W, Reaches L x r) : Tj L (s.enter r) (r :: W) := by
  obtain ⟨f1, f2, f3⟩ := h.fresh h0
  have ne : ∀ v ∈ s.opn, v ≠ r := fun v hv e => f1 (e ▸ hv)
  have new : ∀ v ∈ s.opn, (s.enter r).ord v = s.ord v := fun v hv => upd_ne _ _ (ne v hv)
  have newl : ∀ v ∈ s.opn, (s.enter r).low v = s.low v := fun v hv => upd_ne _ _ (ne v hv)
  have nr : (s.enter r).ord r = s.met + 1 := upd_at ..
  have nlr : (s.enter r).low r = s.met + 1 := upd_at ..
  have hlt : ∀ v ∈ s.opn, (s.enter r).ord v < (s.enter r).ord r := fun v hv => by rw [new v hv, nr]; have := (h.met0 v).2; omega
  have mo : ∀ v, v ∈ (s.enter r).opn ↔ v ∈ s.opn ∨ v = r := fun v => by show v ∈ s.opn ++ [r] ↔ _; simp
  have nz : ∀ v, s.ord v ≠ 0 → (s.enter r).ord v ≠ 0 := fun v hv => by
    by_cases e : v = r
    · subst e; exact absurd h0 hv
    · show upd s.ord r _ v ≠ 0; rw [upd_ne _ _ e]; exact hv
  exact {
    node := fun v hv => by
      rcases (mo v).1 hv with hv | rfl
      · exact h.node v hv
      · exact hr
    met0 := fun v => by
      have := h.met0 v
      show 0 ≤ upd s.ord r (s.met + 1) v ∧ upd s.ord r (s.met + 1) v ≤ ((s.met + 1 : Nat) : Int)
      unfold upd; split <;> omega
    rise := by
      show (s.opn ++ [r]).Pairwise _
      rw [List.pairwise_append]
      refine ⟨?_, List.pairwise_singleton _ _, fun a ha b hb => ?_⟩
      · refine List.Pairwise.imp_of_mem ?_ h.rise
        intro a b ha hb hab
        rw [new a ha, new b hb]; exact hab
      · simp at hb; subst hb; exact hlt a ha
    wrise := by
      rw [List.pairwise_cons]
      refine ⟨fun x hx => hlt x (h.wopen x hx), ?_⟩
      refine List.Pairwise.imp_of_mem ?_ h.wrise
      intro a b ha hb hab
      rw [new a (h.wopen a ha), new b (h.wopen b hb)]; exact hab
    wopen := fun x hx => by
      rw [mo]
      rcases List.mem_cons.1 hx with rfl | hx
      · exact .inr rfl
      · exact .inl (h.wopen x hx)
    vis := fun v => by
      rw [mo]
      by_cases e : v = r
      · subst e; rw [nr]; constructor
        · intro _; exact .inl (.inr rfl)
        · intro _; omega
      · show upd s.ord r _ v ≠ 0 ↔ _
        rw [upd_ne _ _ e, h.vis v]
        constructor
        · rintro (h1 | h1)
          · exact .inl (.inl h1)
          · exact .inr h1
        · rintro ((h1 | h1) | h1)
          · exact .inl h1
          · exact absurd h1 e
          · exact .inr h1
    opc := fun v hv => by
      rcases (mo v).1 hv with hv | rfl
      · exact h.opc v hv
      · exact f2
    c1 := h.c1
    c2 := h.c2
    cedge := h.cedge
    csame := h.csame
    down := fun x hx v hv hle => by
      rcases List.mem_cons.1 hx with e | hx2
      · rcases (mo v).1 hv with hv2 | e2
        · have := hlt v hv2; rw [e] at hle; omega
        · rw [e, e2]; exact .here
      · rcases (mo v).1 hv with hv2 | e2
        · rw [new v hv2, new x (h.wopen x hx2)] at hle; exact h.down x hx2 v hv2 hle
        · rw [e2]; exact hw x hx2
    up := fun v hv => by
      rcases (mo v).1 hv with hv | rfl
      · obtain ⟨x, hx, h1, h2⟩ := h.up v hv
        exact ⟨x, List.mem_cons_of_mem _ hx, by rw [new v hv, new x (h.wopen x hx)]; exact h1, h2⟩
      · exact ⟨v, by simp, Int.le_refl _, .here⟩
    fin := fun v hv hvw u hu => by
      have hvr : v ≠ r := fun e => hvw (by simp [e])
      have hv : v ∈ s.opn := by
        rcases (mo v).1 hv with hv | hv
        · exact hv
        · exact absurd hv hvr
      have hvw' : v ∉ W := fun hc => hvw (List.mem_cons_of_mem _ hc)
      obtain ⟨h1, h2⟩ := h.fin v hv hvw' u hu
      refine ⟨nz u h1, fun ho x hx hown => ?_⟩
      have hur : u ≠ r := fun e => by subst e; exact h1 h0
      have ho : u ∈ s.opn := by
        rcases (mo u).1 ho with ho | ho
        · exact ho
        · exact absurd ho hur
      rcases List.mem_cons.1 hx with e | hx
      · have := hlt v hv; have := hown.1; rw [e] at this; omega
      · rw [newl x (h.wopen x hx), new u ho]
        refine h2 ho x hx ⟨?_, fun y hy hle => ?_⟩
        · have := hown.1; rwa [new v hv, new x (h.wopen x hx)] at this
        · have := hown.2 y (List.mem_cons_of_mem _ hy) (by rw [new y (h.wopen y hy), new v hv]; exact hle)
          rwa [new y (h.wopen y hy), new x (h.wopen x hx)] at this
    low1 := fun x hx => by
      rcases List.mem_cons.1 hx with rfl | hx
      · exact ⟨by rw [nr, nlr]; exact Int.le_refl _, x, (mo x).2 (.inr rfl), by rw [nr, nlr], .here⟩
      · obtain ⟨h1, u, h2, h3, h4⟩ := h.low1 x hx
        refine ⟨by rw [newl x (h.wopen x hx), new x (h.wopen x hx)]; exact h1, u, (mo u).2 (.inl h2), by rw [new u h2, newl x (h.wopen x hx)]; exact h3, h4⟩ }
theorem Seen.enter {L : List (List Int)} {s : TS} {way : List (Int × Nat)} {W : List Int} {r : Int} (h : Seen L s way) (ht : Tj L s W) (hW : ∀ p ∈ way, p.1 ∈ W) (h0 : s.ord r = 0) : Seen L (s.enter r) ((r, 0) :: way) := fun p hp m hm u hu hn => by
  obtain ⟨f1, f2, f3⟩ := ht.fresh h0
  rcases List.mem_cons.1 hp with rfl | hp
  · simp at hm
  · obtain ⟨h1, h2⟩ := h p hp m hm u hu hn
    have hur : u ≠ r := fun e => by subst e; exact h1 h0
    have hpr : p.1 ≠ r := fun e => f3 (e ▸ hW p hp)
    refine ⟨?_, fun ho => ?_⟩
    · show upd s.ord r _ u ≠ 0; rw [upd_ne _ _ hur]; exact h1
    · have ho : u ∈ s.opn := by
        have : u ∈ s.opn ++ [r] := ho
        rcases List.mem_append.1 this with ho | ho
        · exact ho
        · simp at ho; exact absurd ho hur
      show upd s.low r _ p.1 ≤ upd s.ord r _ u
      rw [upd_ne _ _ hur, upd_ne _ _ hpr]; exact h2 ho

end Go.Proofs.YtijnekbhpdcemaaDoor
