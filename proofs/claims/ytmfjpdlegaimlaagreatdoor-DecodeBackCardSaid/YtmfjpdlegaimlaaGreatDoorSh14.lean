/- The small machine's code and calls. Of no program. -/
import Derived.Test.YtmfjpdlegaimlaaGreatDoorSh13
import Derived.Scope
namespace Go.Proofs.YtmfjpdlegaimlaaGreatDoor
open Go.RowKit
set_option linter.unusedVariables false
set_option linter.unusedSimpArgs false
variable {bs : Inhabited Base}

section
variable {P : Program} {N : Nat} {β : Bij}

theorem region_plain {call : FuncId → List Value → Hp → Ret} (hc : CallOk P call) {id : Nat} {ops : Array Oper} {R : Regs} {H : Hp} {e : Ex} {R' : Regs} {H' : Hp} (hrun : regionS P call ops.toList R H false = .ok e R' H') (hok : opsOk N ops.toList = true) {a : Act} {w : World} (hs : S N β R H a w) :
    (Code.region id ops false).wp P (CodePost N β H w e R' H') a w := by
  have hrun' : opsS P call ops.toList ops.toList R H = .ok e R' H' := hrun
  have he : e = .normal := by
    have : ∀ (l : List Oper) (R : Regs) (H : Hp) (e : Ex) (R' : Regs) (H' : Hp), opsS P call ops.toList l R H = .ok e R' H' → e = .normal := by
      intro l
      induction l with
      | nil => intro R H e R' H' h; cases h; rfl
      | cons o l ih =>
        intro R H e R' H' h
        have h' : wantS (nextS call (fun v H => opsS P call ops.toList l (putR R v o.dst) H) o.pos (opS P R H o.type o.op)) (opsS P call ops.toList l (putR R undefS o.dst) H) (wantedS ops.toList R o.guard) = .ok e R' H' := h
        cases hw : wantedS ops.toList R o.guard with
        | none => rw [hw] at h'; cases h'
        | some t =>
          rw [hw] at h'
          cases t with
          | false => exact ih _ _ _ _ _ h'
          | true =>
            have h2 : nextS call (fun v H => opsS P call ops.toList l (putR R v o.dst) H) o.pos (opS P R H o.type o.op) = .ok e R' H' := h'
            cases hop : opS P R H o.type o.op with
            | val v H1 => rw [hop] at h2; exact ih _ _ _ _ _ h2
            | skip H1 => rw [hop] at h2; exact ih _ _ _ _ _ h2
            | enter f args H1 =>
              rw [hop] at h2
              have h3 : (match call f args H1 with | .ok v H => opsS P call ops.toList l (putR R v o.dst) H | .bad why l => .bad why (o.pos :: l)) = .ok e R' H' := (nextS_enter ..).symm.trans h2
              cases hcl : call f args H1 with
              | bad n l => rw [hcl] at h3; cases h3
              | ok v H2 => rw [hcl] at h3; exact ih _ _ _ _ _ h3
            | bad n => rw [hop] at h2; cases h2
    exact this _ _ _ _ _ _ hrun'
  subst he
  refine wp_region ?_
  have := ops_sound hc ops (CodePost N β H w .normal R' H') ops.toList 0 (by simp) hok R H .normal R' H' hrun' β a w hs (fun β' a' w' _ hst hs' => ⟨trivial, β', hst, hs'⟩)
  rw [List.range_eq_range']
  simpa using this

theorem codeS_succ (X : XF) (n : Nat) (c : Code) (R : Regs) (H : Hp) : codeS P X (n + 1) c R H = runC P (codeS P X n) (enterX X (fun f args H => runF P (codeS P X n) args H P.funcs[f]?)) R H c := rfl

theorem loop_sound {X : XF} (n : Nat) (hb : ∀ m, m < n → CodeSnd P (codeS P X m)) (c : Code) {R : Regs} {H : Hp} {e : Ex} {R' : Regs} {H' : Hp} (hrun : codeS P X n (.loop c) R H = .ok e R' H') (hok : codeOk N c = true) {a : Act} {w : World} (hs : S N β R H a w) :
    (Code.loop c).wp P (CodePost N β H w e R' H') a w := by
  let J : Nat → Act → World → Prop := fun m a1 w1 => m ≤ n ∧ ∃ β1 R1 H1, St β H w β1 H1 w1 ∧ S N β1 R1 H1 a1 w1 ∧ codeS P X m (.loop c) R1 H1 = .ok e R' H'
  have hle : ∀ (a1 : Act) (w1 : World), (∃ m, J m a1 w1) → ∃ m, J m a1 w1 ∧ ∀ m', J m' a1 w1 → m ≤ m' := by
    intro a1 w1 ⟨m0, h0⟩
    induction m0 using Nat.strongRecOn with
    | ind m0 ih =>
      by_cases hx : ∃ m', m' < m0 ∧ J m' a1 w1
      · obtain ⟨m', h1, h2⟩ := hx; exact ih m' h1 h2
      · exact ⟨m0, h0, fun m' h' => by
          rcases Nat.lt_or_ge m' m0 with h | h
          · exact absurd ⟨m', h, h'⟩ hx
          · exact h⟩
  let μ : Act → World → Nat := fun a1 w1 => @dite _ (∃ m, J m a1 w1) (Classical.propDecidable _) (fun h => Classical.choose (hle a1 w1 h)) (fun _ => 0)
  have hμ : ∀ a1 w1, (h : ∃ m, J m a1 w1) → J (μ a1 w1) a1 w1 ∧ ∀ m', J m' a1 w1 → μ a1 w1 ≤ m' := by
    intro a1 w1 h
    have e1 : μ a1 w1 = Classical.choose (hle a1 w1 h) := by
      show @dite _ (∃ m, J m a1 w1) (Classical.propDecidable _) _ _ = _
      rw [dif_pos h]
    rw [e1]
    exact Classical.choose_spec (hle a1 w1 h)
  refine wp_loop (fun a1 w1 => ∃ m, J m a1 w1) μ ⟨n, Nat.le_refl _, β, R, H, St.refl _ _ _, hs, hrun⟩ ?_
  intro a1 w1 hI
  obtain ⟨⟨h1, β1, R1, H1, h2, h3, h4⟩, h5⟩ := hμ a1 w1 hI
  generalize hm : μ a1 w1 = m at h1 h4 h5
  cases m with
  | zero => cases h4
  | succ m =>
    have h6 : seqS (codeS P X m (.loop c)) (codeS P X m c R1 H1) = .ok e R' H' := h4
    cases hbody : codeS P X m c R1 H1 with
    | bad n l => rw [hbody] at h6; cases h6
    | ok e1 R2 H2 =>
      rw [hbody] at h6
      have hw := hb m (by omega) N c R1 H1 e1 R2 H2 hbody hok β1 a1 w1 h3
      refine wp_mono hw ?_
      rintro e2 a2 w2 ⟨he, β2, h7, h8⟩
      cases e1 with
      | normal =>
        cases e2 <;> first | exact he.elim | skip
        have h9 : codeS P X m (.loop c) R2 H2 = .ok e R' H' := h6
        have hJ : J m a2 w2 := ⟨by omega, β2, R2, H2, St.tr hs.hr h3.hr hs.wf h2 h7, h8, h9⟩
        exact ⟨⟨m, hJ⟩, by have := (hμ a2 w2 ⟨m, hJ⟩).2 m hJ; omega⟩
      | exit i =>
        have h9 : Out.ok (.exit i) R2 H2 = .ok e R' H' := h6
        cases h9
        cases e2 <;> first | exact he.elim | skip
        exact ⟨he, β2, St.tr hs.hr h3.hr hs.wf h2 h7, h8⟩
      | ret =>
        have h9 : Out.ok .ret R2 H2 = .ok e R' H' := h6
        cases h9
        cases e2 <;> first | exact he.elim | skip
        exact ⟨he, β2, St.tr hs.hr h3.hr hs.wf h2 h7, h8⟩

/-! ### results -/
theorem regsOf_RR {l m : List Value} (h : VL β l m) : ∀ (k : Nat) (R : Regs) (a : Array Value), RR β R a → Wide R → k + l.length ≤ a.size → k + l.length ≤ 1000 → RR β (regsOf l k R) (a.toList.take k ++ (m ++ a.toList.drop (k + m.length))).toArray ∧ Wide (regsOf l k R) := by
  induction l generalizing m with
  | nil =>
    intro k R a hr hw hs hn
    obtain rfl : m = [] := List.eq_nil_of_length_eq_zero (by have := h.1; simpa using this.symm)
    refine ⟨?_, hw⟩
    show RR β R _
    simpa using hr
  | cons x l ih =>
    intro k R a hr hw hs hn
    obtain ⟨y, m, rfl, hx, hl⟩ := h.uncons
    simp only [List.length_cons] at hs hn
    have h1 := hr.set k (by omega) (by omega) hw hx
    have h2 : Wide (R.set x (Nat.succ k)) := fun j hj => by rw [Tr.inb_set]; exact hw j hj
    obtain ⟨h3, h4⟩ := ih hl (k + 1) (R.set x (Nat.succ k)) (a.setIfInBounds k y) h1 h2 (by simp; omega) (by omega)
    refine ⟨?_, h4⟩
    show RR β (regsOf l (k + 1) (R.set x (Nat.succ k))) _
    have e : (a.toList.take k ++ (y :: m ++ a.toList.drop (k + (y :: m).length))).toArray = ((a.setIfInBounds k y).toList.take (k + 1) ++ (m ++ (a.setIfInBounds k y).toList.drop (k + 1 + m.length))).toArray := by
      congr 1
      have hk : k < a.toList.length := by rw [Array.length_toList]; omega
      simp only [Array.toList_setIfInBounds, List.length_cons]
      rw [List.take_succ_eq_append_getElem (by simpa using hk), List.take_set_of_le (Nat.le_refl _), List.getElem_set_self, List.drop_set_of_lt (by omega)]
      simp only [List.append_assoc, List.singleton_append, List.cons_append]
      rw [show k + (m.length + 1) = k + 1 + m.length by omega]
      rfl
    rw [e]; exact h3
/-- a result -/
def resV (tmps : Array Value) : ResultVar → Sem Value
  | .tmp t => pure (tmps.getD t undef)
  | .cell a t => do loadVar t (← asAddr (tmps.getD a undef))
theorem res_run {A : Nat → Prop} {H : Hp} {w : World} (hr : HR A β H w) (hA : ∀ b, memN H.ban b = false → A b) {R : Regs} {tmps : Array Value} (h : RR β R tmps) : ∀ (l : List ResultVar) (vs : List Value), ressS P R H l = some vs →
    ∃ us, VL β vs us ∧ (l.mapM (resV tmps) : Sem (List Value)).run P w = .ok us w
  | [], vs, e => by cases e; exact ⟨[], VL.nil β, by simp⟩
  | x :: l, vs, e => by
    have e' : (match resS P R H x, ressS P R H l with | some v, some l => some (v :: l) | _, _ => none) = some vs := e
    split at e'
    · rename_i v r hv hl
      cases e'
      obtain ⟨us, h1, h2⟩ := res_run hr hA h l r hl
      have hx : ∃ u, VR β v u ∧ (resV tmps x).run P w = .ok u w := by
        cases x with
        | tmp t => cases hv; exact ⟨_, h t, rfl⟩
        | cell a t =>
          have hv' : (match loadS P H t (getR R a) with | .val v _ => some v | _ => none) = some v := hv
          have hld := load_run (P := P) hr (t := t) (h a) (fun b q _ _ hb => hA q.grp hb)
          cases hlo : loadS P H t (getR R a) with
          | val v0 H0 =>
            rw [hlo] at hv' hld
            cases hv'
            obtain ⟨_, u, hu, hrun⟩ := hld
            refine ⟨u, hu, ?_⟩
            have hp : ∃ ad, tmps.getD a undef = .pointer (some ad) := by
              have hva := h a
              unfold loadS at hlo
              split at hlo
              · rename_i b off hb
                rw [hb] at hva
                obtain ⟨k, hk, hy⟩ := hva.ptr_inv (sp := none)
                exact ⟨_, hy⟩
              · cases hlo
            obtain ⟨ad, hp⟩ := hp
            rw [hp] at hrun
            simp only [Instr.loadAt, Instr.sureAddr, Sem.run_bind, Sem.run_pure, Result.andThen_ok] at hrun
            simp only [resV, hp, asAddr, Sem.run_bind, Sem.run_pure, Result.andThen_ok]
            exact hrun
          | skip H0 => rw [hlo] at hv'; cases hv'
          | enter f g H0 => rw [hlo] at hv'; cases hv'
          | bad n => rw [hlo] at hv'; cases hv'
      obtain ⟨u, h3, h4⟩ := hx
      refine ⟨u :: us, VL.cons h3 h1, ?_⟩
      rw [List.mapM_cons]
      simp only [Sem.run_bind, h4, Result.andThen_ok, h2, Sem.run_pure]
    · cases e'
theorem results_run {A : Nat → Prop} {H : Hp} {w : World} (hr : HR A β H w) (hA : ∀ b, memN H.ban b = false → A b) {R : Regs} {tmps : Array Value} (h : RR β R tmps) (fn : Func) {v : Value} {H' : Hp} (e : retL H (ressS P R H fn.results.toList) = .ok v H') :
    H' = H ∧ ∃ u, VR β v u ∧ (results fn tmps).run P w = .ok u w := by
  cases hl : ressS P R H fn.results.toList with
  | none => rw [hl] at e; cases e
  | some vs =>
    rw [hl] at e
    obtain ⟨us, h1, h2⟩ := res_run (P := P) hr hA h _ vs hl
    have hrun : (results fn tmps).run P w = .ok (if h : us.toArray.size = 1 then us.toArray[0] else .tuple us.toArray) w := by
      have e0 : results fn tmps = (do let vs ← fn.results.mapM (resV tmps); pure (if h : vs.size = 1 then vs[0] else .tuple vs)) := rfl
      rw [e0, Array.mapM_eq_mapM_toList]
      simp only [Sem.run_bind, Sem.run_map, h2, Result.andThen_ok, Sem.run_pure]
    rw [hrun]
    unfold retL at e
    split at e
    · rename_i v0 hv
      cases hv
      cases e
      obtain ⟨u, r, rfl, h3, h4⟩ := h1.uncons
      obtain rfl : r = [] := by have := h4.1; simpa using this.symm
      exact ⟨rfl, u, h3, by simp⟩
    · rename_i vs0 hne hv
      cases hv
      cases e
      have hlen : us.length ≠ 1 := by
        rw [← h1.1]
        intro h5
        obtain ⟨v0, rfl⟩ := List.length_eq_one_iff.1 h5
        exact hne v0 rfl
      refine ⟨rfl, .tuple us.toArray, .tuple (by simpa using h1.1) (by simpa using h1.2), ?_⟩
      rw [dif_neg (by simpa using hlen)]
    · cases e
end
end Go.Proofs.YtmfjpdlegaimlaaGreatDoor
