/- The small machine's code and calls. Of no program. -/
import Derived.Test.YtnoppoifepbchaaDoorSh12
import Derived.Scope
namespace Go.Proofs.YtnoppoifepbchaaDoor.Sh
section
open Go.RowKit
set_option linter.unusedVariables false
set_option linter.unusedSimpArgs false
variable {bs : Inhabited Base}

section
variable {P : Program} {N : Nat} {β : Bij}

theorem region_plain {call : FuncId → List Value → Hp → Ret} (hc : CallOk P call) {id : Nat} {ops : Array Oper} {R : Regs} {H : Hp} {e : Ex} {R' : Regs} {H' : Hp} (hrun : regionS P call ops.toList R H false = .ok e R' H') (hok : opsOk N ops.toList = true) {a : Act} {w : World} (hs : S N β R H a w) :
  (Code.region id ops false).wp P (CodePost N β H w e R' H') a w := by
 have hrun' : opsS P call ops.toList ops.toList R H = .ok e R' H' := hrun
 have he : e = .normal := by
  have : ∀ (l : List Oper) (R : Regs) (H : Hp) (e : Ex) (R' : Regs) (H' : Hp), opsS P call ops.toList l R H = .ok e R' H' → e = .normal := by
   intro l
   induction l with
   | nil => intro R H e R' H' h; cases h; rfl
   | cons o l ih =>
     intro R H e R' H' h
     have h' : wantS (nextS call (fun v H => opsS P call ops.toList l (putR R v o.dst) H) o.pos (opS P R H o.type o.op)) (opsS P call ops.toList l (putR R undefS o.dst) H) (wantedS ops.toList R o.guard) = .ok e R' H' := h
     cases hw : wantedS ops.toList R o.guard with
     | none => rw [hw] at h'; cases h'
     | some t =>
       rw [hw] at h'
       cases t with
       | false => exact ih _ _ _ _ _ h'
       | true =>
         have h2 : nextS call (fun v H => opsS P call ops.toList l (putR R v o.dst) H) o.pos (opS P R H o.type o.op) = .ok e R' H' := h'
         cases hop : opS P R H o.type o.op with
         | val v H1 => rw [hop] at h2; exact ih _ _ _ _ _ h2
         | skip H1 => rw [hop] at h2; exact ih _ _ _ _ _ h2
         | enter f args H1 =>
           rw [hop] at h2
           have h3 : (match call f args H1 with | .ok v H => opsS P call ops.toList l (putR R v o.dst) H | .bad why l => .bad why (o.pos :: l)) = .ok e R' H' := (nextS_enter ..).symm.trans h2
           cases hcl : call f args H1 with
           | bad n l => rw [hcl] at h3; cases h3
           | ok v H2 => rw [hcl] at h3; exact ih _ _ _ _ _ h3
         | bad n => rw [hop] at h2; cases h2
  exact this _ _ _ _ _ _ hrun'
 subst he
 refine wp_region ?_
 have := ops_sound hc ops (CodePost N β H w .normal R' H') ops.toList 0 (by simp) hok R H .normal R' H' hrun' β a w hs (fun β' a' w' _ hst hs' => ⟨trivial, β', hst, hs'⟩)
 rw [List.range_eq_range']
 simpa using this

theorem codeS_succ (X : XF) (n : Nat) (c : Code) (R : Regs) (H : Hp) : codeS P X (n + 1) c R H = runC P (codeS P X n) (enterX X (fun f args H => runF P (codeS P X n) args H P.funcs[f]?)) R H c := rfl

theorem loop_sound {X : XF} (n : Nat) (hb : ∀ m, m < n → CodeSnd P (codeS P X m)) (c : Code) {R : Regs} {H : Hp} {e : Ex} {R' : Regs} {H' : Hp} (hrun : codeS P X n (.loop c) R H = .ok e R' H') (hok : codeOk N c = true) {a : Act} {w : World} (hs : S N β R H a w) :
  (Code.loop c).wp P (CodePost N β H w e R' H') a w := by
 let J : Nat → Act → World → Prop := fun m a1 w1 => m ≤ n ∧ ∃ β1 R1 H1, St β H w β1 H1 w1 ∧ S N β1 R1 H1 a1 w1 ∧ codeS P X m (.loop c) R1 H1 = .ok e R' H'
 have hle : ∀ (a1 : Act) (w1 : World), (∃ m, J m a1 w1) → ∃ m, J m a1 w1 ∧ ∀ m', J m' a1 w1 → m ≤ m' := by
  intro a1 w1 ⟨m0, h0⟩
  induction m0 using Nat.strongRecOn with
  | ind m0 ih =>
    by_cases hx : ∃ m', m' < m0 ∧ J m' a1 w1
    · obtain ⟨m', h1, h2⟩ := hx; exact ih m' h1 h2
    · exact ⟨m0, h0, fun m' h' => by
       rcases Nat.lt_or_ge m' m0 with h | h
       · exact absurd ⟨m', h, h'⟩ hx
       · exact h⟩
 let μ : Act → World → Nat := fun a1 w1 => @dite _ (∃ m, J m a1 w1) (Classical.propDecidable _) (fun h => Classical.choose (hle a1 w1 h)) (fun _ => 0)
 have hμ : ∀ a1 w1, (h : ∃ m, J m a1 w1) → J (μ a1 w1) a1 w1 ∧ ∀ m', J m' a1 w1 → μ a1 w1 ≤ m' := by
  intro a1 w1 h
  have e1 : μ a1 w1 = Classical.choose (hle a1 w1 h) := by
   show @dite _ (∃ m, J m a1 w1) (Classical.propDecidable _) _ _ = _
   rw [dif_pos h]
  rw [e1]
  exact Classical.choose_spec (hle a1 w1 h)
 refine wp_loop (fun a1 w1 => ∃ m, J m a1 w1) μ ⟨n, Nat.le_refl _, β, R, H, St.refl _ _ _, hs, hrun⟩ ?_
 intro a1 w1 hI
 obtain ⟨⟨h1, β1, R1, H1, h2, h3, h4⟩, h5⟩ := hμ a1 w1 hI
 generalize hm : μ a1 w1 = m at h1 h4 h5
 cases m with
 | zero => cases h4
 | succ m =>
   have h6 : seqS (codeS P X m (.loop c)) (codeS P X m c R1 H1) = .ok e R' H' := h4
   cases hbody : codeS P X m c R1 H1 with
   | bad n l => rw [hbody] at h6; cases h6
   | ok e1 R2 H2 =>
     rw [hbody] at h6
     have hw := hb m (by omega) N c R1 H1 e1 R2 H2 hbody hok β1 a1 w1 h3
     refine wp_mono hw ?_
     rintro e2 a2 w2 ⟨he, β2, h7, h8⟩
     cases e1 with
     | normal =>
       cases e2 <;> first | exact he.elim | skip
       have h9 : codeS P X m (.loop c) R2 H2 = .ok e R' H' := h6
       have hJ : J m a2 w2 := ⟨by omega, β2, R2, H2, St.tr hs.hr h3.hr hs.wf h2 h7, h8, h9⟩
       exact ⟨⟨m, hJ⟩, by have := (hμ a2 w2 ⟨m, hJ⟩).2 m hJ; omega⟩
     | exit i =>
       have h9 : Out.ok (.exit i) R2 H2 = .ok e R' H' := h6
       cases h9
       cases e2 <;> first | exact he.elim | skip
       exact ⟨he, β2, St.tr hs.hr h3.hr hs.wf h2 h7, h8⟩
     | ret =>
       have h9 : Out.ok .ret R2 H2 = .ok e R' H' := h6
       cases h9
       cases e2 <;> first | exact he.elim | skip
       exact ⟨he, β2, St.tr hs.hr h3.hr hs.wf h2 h7, h8⟩

/-! ### results -/
theorem regsOf_RR {l m : List Value} (h : VL β l m) : ∀ (k : Nat) (R : Regs) (a : Array Value), RR β R a → Wide R → k + l.length ≤ a.size → k + l.length ≤ 1000 → RR β (regsOf l k R) (a.toList.take k ++ (m ++ a.toList.drop (k + m.length))).toArray ∧ Wide (regsOf l k R) := by
 induction l generalizing m with
 | nil =>
   intro k R a hr hw hs hn
   obtain rfl : m = [] := List.eq_nil_of_length_eq_zero (by have := h.1; simpa using this.symm)
   refine ⟨?_, hw⟩
   show RR β R _
   simpa using hr
 | cons x l ih =>
   intro k R a hr hw hs hn
   obtain ⟨y, m, rfl, hx, hl⟩ := h.uncons
   simp only [List.length_cons] at hs hn
   have h1 := hr.set k (by omega) (by omega) hw hx
   have h2 : Wide (R.set x (Nat.succ k)) := fun j hj => by rw [Tr.inb_set]; exact hw j hj
   obtain ⟨h3, h4⟩ := ih hl (k + 1) (R.set x (Nat.succ k)) (a.setIfInBounds k y) h1 h2 (by simp; omega) (by omega)
   refine ⟨?_, h4⟩
   show RR β (regsOf l (k + 1) (R.set x (Nat.succ k))) _
   have e : (a.toList.take k ++ (y :: m ++ a.toList.drop (k + (y :: m).length))).toArray = ((a.setIfInBounds k y).toList.take (k + 1) ++ (m ++ (a.setIfInBounds k y).toList.drop (k + 1 + m.length))).toArray := by
    congr 1
    have hk : k < a.toList.length := by rw [Array.length_toList]; omega
    simp only [Array.toList_setIfInBounds, List.length_cons]
    rw [List.take_succ_eq_append_getElem (by simpa using hk), List.take_set_of_le (Nat.le_refl _), List.getElem_set_self, List.drop_set_of_lt (by omega)]
    simp only [List.append_assoc, List.singleton_append, List.cons_append]
    rw [show k + (m.length + 1) = k + 1 + m.length by omega]
    rfl
   rw [e]; exact h3
/-- a result -/
def resV (tmps : Array Value) : ResultVar → Sem Value
 | .tmp t => pure (tmps.getD t undef)
 | .cell a t => do loadVar t (← asAddr (tmps.getD a undef))
theorem res_run {A : Nat → Prop} {H : Hp} {w : World} (hr : HR A β H w) (hA : ∀ b, memN H.ban b = false → A b) {R : Regs} {tmps : Array Value} (h : RR β R tmps) : ∀ (l : List ResultVar) (vs : List Value), ressS P R H l = some vs →
  ∃ us, VL β vs us ∧ (l.mapM (resV tmps) : Sem (List Value)).run P w = .ok us w
 | [], vs, e => by cases e; exact ⟨[], VL.nil β, by simp⟩
 | x :: l, vs, e => by
   have e' : (match resS P R H x, ressS P R H l with | some v, some l => some (v :: l) | _, _ => none) = some vs := e
   split at e'
   · rename_i v r hv hl
     cases e'
     obtain ⟨us, h1, h2⟩ := res_run hr hA h l r hl
     have hx : ∃ u, VR β v u ∧ (resV tmps x).run P w = .ok u w := by
      cases x with
      | tmp t => cases hv; exact ⟨_, h t, rfl⟩
      | cell a t =>
        have hv' : (match loadS P H t (getR R a) with | .val v _ => some v | _ => none) = some v := hv
        have hld := load_run (P := P) hr (t := t) (h a) (fun b q _ _ hb => hA q.grp hb)
        cases hlo : loadS P H t (getR R a) with
        | val v0 H0 =>
          rw [hlo] at hv' hld
          cases hv'
          obtain ⟨_, u, hu, hrun⟩ := hld
          refine ⟨u, hu, ?_⟩
          have hp : ∃ ad, tmps.getD a undef = .pointer (some ad) := by
           have hva := h a
           unfold loadS at hlo
           split at hlo
           · rename_i b off hb
             rw [hb] at hva
             obtain ⟨k, hk, hy⟩ := hva.ptr_inv (sp := none)
             exact ⟨_, hy⟩
           · cases hlo
          obtain ⟨ad, hp⟩ := hp
          rw [hp] at hrun
          simp only [Instr.loadAt, Instr.sureAddr, Sem.run_bind, Sem.run_pure, Result.andThen_ok] at hrun
          simp only [resV, hp, asAddr, Sem.run_bind, Sem.run_pure, Result.andThen_ok]
          exact hrun
        | skip H0 => rw [hlo] at hv'; cases hv'
        | enter f g H0 => rw [hlo] at hv'; cases hv'
        | bad n => rw [hlo] at hv'; cases hv'
     obtain ⟨u, h3, h4⟩ := hx
     refine ⟨u :: us, VL.cons h3 h1, ?_⟩
     rw [List.mapM_cons]
     simp only [Sem.run_bind, h4, Result.andThen_ok, h2, Sem.run_pure]
   · cases e'
theorem results_run {A : Nat → Prop} {H : Hp} {w : World} (hr : HR A β H w) (hA : ∀ b, memN H.ban b = false → A b) {R : Regs} {tmps : Array Value} (h : RR β R tmps) (fn : Func) {v : Value} {H' : Hp} (e : retL H (ressS P R H fn.results.toList) = .ok v H') :
  H' = H ∧ ∃ u, VR β v u ∧ (results fn tmps).run P w = .ok u w := by
 cases hl : ressS P R H fn.results.toList with
 | none => rw [hl] at e; cases e
 | some vs =>
   rw [hl] at e
   obtain ⟨us, h1, h2⟩ := res_run (P := P) hr hA h _ vs hl
   have hrun : (results fn tmps).run P w = .ok (if h : us.toArray.size = 1 then us.toArray[0] else .tuple us.toArray) w := by
    have e0 : results fn tmps = (do let vs ← fn.results.mapM (resV tmps); pure (if h : vs.size = 1 then vs[0] else .tuple vs)) := rfl
    rw [e0, Array.mapM_eq_mapM_toList]
    simp only [Sem.run_bind, Sem.run_map, h2, Result.andThen_ok, Sem.run_pure]
   rw [hrun]
   unfold retL at e
   split at e
   · rename_i v0 hv
     cases hv
     cases e
     obtain ⟨u, r, rfl, h3, h4⟩ := h1.uncons
     obtain rfl : r = [] := by have := h4.1; simpa using this.symm
     exact ⟨rfl, u, h3, by simp⟩
   · rename_i vs0 hne hv
     cases hv
     cases e
     have hlen : us.length ≠ 1 := by
      rw [← h1.1]
      intro h5
      obtain ⟨v0, rfl⟩ := List.length_eq_one_iff.1 h5
      exact hne v0 rfl
     refine ⟨rfl, .tuple us.toArray, .tuple (by simpa using h1.1) (by simpa using h1.2), ?_⟩
     rw [dif_neg (by simpa using hlen)]
   · cases e
end
end
section
open Go.RowKit
set_option linter.unusedVariables false
set_option linter.unusedSimpArgs false
variable {bs : Inhabited Base}

section
variable {P : Program}

theorem call_sound {code : Code → Regs → Hp → Out} (hcode : CodeSnd P code) : CallOk P (fun f args H => runF P code args H P.funcs[f]?) := by
 intro f args H v H' hrun β w args' hw hr hl
 have hrun' : runF P code args H P.funcs[f]? = .ok v H' := hrun
 unfold runF at hrun'
 split at hrun'
 · rename_i fn hfn
   split at hrun'
   · rename_i c hbody
     cases hcc : (Nat.ble fn.ntmps 1000 && (Nat.ble (lenL args) fn.ntmps && codeOk fn.ntmps c)) with
     | false => rw [hcc] at hrun'; cases hrun'
     | true =>
       rw [hcc] at hrun'
       obtain ⟨h1, h2⟩ := and_split hcc
       obtain ⟨h2, h3⟩ := and_split h2
       have h1 := of_ble h1
       have h2 := of_ble h2
       rw [lenL_eq] at h2
       have hrun2 : endS' P fn (code c (regsOf args 0 (Tr.blank _ regDepth)) H) = .ok v H' := hrun'
       have hlen : args'.size = args.length := by rw [hl.1]; simp
       have hblank : RR β (Tr.blank Value regDepth) (Array.replicate fn.ntmps undef) := by
        intro t
        have e1 : getR (Tr.blank Value regDepth) t = undefS := by unfold getR; rw [Tr.get_blank]
        have e2 : (Array.replicate fn.ntmps undef).getD t undef = undef := by
         rw [Array.getD_eq_getD_getElem?, Array.getElem?_replicate]; split <;> rfl
        rw [e1, e2]; exact VR.undef β
       have hwide : Wide (Tr.blank Value regDepth) := fun t ht => Tr.inb_blank 10 (t + 1) (by omega) (by omega)
       obtain ⟨h4, h5⟩ := regsOf_RR hl 0 _ _ hblank hwide (by simp; omega) (by omega)
       have etmps : ((Array.replicate fn.ntmps undef).toList.take 0 ++ (args'.toList ++ (Array.replicate fn.ntmps undef).toList.drop (0 + args'.toList.length))).toArray = args' ++ Array.replicate (fn.ntmps - args'.size) undef := by
        apply Array.toList_inj.1
        simp [List.drop_replicate]
       rw [etmps] at h4
       have hs : S fn.ntmps β (regsOf args 0 (Tr.blank _ regDepth)) H { tmps := args' ++ Array.replicate (fn.ntmps - args'.size) undef, defers := [] } w :=
        ⟨hw, hr, h4, h5, h1, by simp; omega, by simp; omega, rfl⟩
       refine calls_of_wp hfn hbody ?_
       cases hres : code c (regsOf args 0 (Tr.blank _ regDepth)) H with
       | bad n l => rw [hres] at hrun2; cases hrun2
       | ok e R' H1 =>
         rw [hres] at hrun2
         refine wp_mono (hcode fn.ntmps c _ _ _ _ _ hres h3 β _ w hs) ?_
         rintro e2 a2 w2 ⟨he, β', hst, hs'⟩
         have fin : retL H1 (ressS P R' H1 fn.results.toList) = .ok v H' → a2.defers = [] ∧ ∃ u, (results fn a2.tmps).run P w2 = .ok u w2 ∧ CallPost β H w v H' (.returned u) w2 := by
          intro hret
          obtain ⟨rfl, u, hu, hrunr⟩ := results_run (P := P) hs'.hr (fun b hb => hb) hs'.rr fn hret
          exact ⟨hs'.defers, u, hrunr, β', u, rfl, hu, hst, hs'.wf, by rw [← hst.ban]; exact hs'.hr⟩
         cases e with
         | normal => cases e2 <;> first | exact he.elim | exact fin hrun2
         | ret => cases e2 <;> first | exact he.elim | exact fin hrun2
         | exit i => cases hrun2
   · cases hrun'
 · cases hrun'

/-- what is told of functions that are not run holds of them -/
def XOk [Inhabited Base] (P : Program) (X : XF) : Prop :=
 ∀ f k, X f = some k → ∀ args H v H', k args H = .ok v H' → ∀ β w (args' : Array Value), WF H → HR (Ab H.ban) β H w → VL β args args'.toList → Calls P f args' w (CallPost β H w v H')
theorem XOk.none [Inhabited Base] : XOk P XF.none := fun f k h => by cases h
theorem enterX_ok {X : XF} (hX : XOk P X) {g : FuncId → List Value → Hp → Ret} (hg : CallOk P g) : CallOk P (enterX X g) := by
 intro f args H v H' h
 unfold enterX at h
 cases hx : X f with
 | none => rw [hx] at h; exact hg f args H v H' h
 | some k => rw [hx] at h; exact hX f k hx args H v H' h

theorem code_step {X : XF} (hX : XOk P X) (hreg : ∀ call, CallOk P call → RegionOk P call) (n : Nat) (hall : ∀ m, m ≤ n → CodeSnd P (codeS P X m)) : CodeSnd P (codeS P X (n + 1)) := by
 intro N c R H e R' H' hrun hok β a w hs
 have hc := hall n (Nat.le_refl n)
 have hcall := enterX_ok hX (call_sound hc)
 cases c with
 | skip => cases hrun; exact wp_skip ⟨trivial, β, St.refl _ _ _, hs⟩
 | region id ops draw => exact hreg _ hcall N id ops R H e R' H' draw hrun hok β a w hs
 | seq x y =>
   obtain ⟨h1, h2⟩ := codeOk_seq hok
   have hrun' : seqS (codeS P X n y) (codeS P X n x R H) = .ok e R' H' := hrun
   cases hx : codeS P X n x R H with
   | bad k l => rw [hx] at hrun'; cases hrun'
   | ok e1 R1 H1 =>
     rw [hx] at hrun'
     refine wp_seq (wp_mono (hc N x R H e1 R1 H1 hx h1 β a w hs) ?_)
     rintro e2 a2 w2 ⟨he, β2, h3, h4⟩
     cases e1 with
     | normal =>
       cases e2 <;> first | exact he.elim | skip
       exact wp_mono (hc N y R1 H1 e R' H' hrun' h2 β2 a2 w2 h4) (fun e3 a3 w3 hp => post_trans hs.hr h4.hr hs.wf h3 hp)
     | exit i =>
       have h9 : Out.ok (.exit i) R1 H1 = .ok e R' H' := hrun'
       cases h9
       cases e2 <;> first | exact he.elim | skip
       exact ⟨he, β2, h3, h4⟩
     | ret =>
       have h9 : Out.ok .ret R1 H1 = .ok e R' H' := hrun'
       cases h9
       cases e2 <;> first | exact he.elim | skip
       exact ⟨he, β2, h3, h4⟩
 | cond o x y =>
   obtain ⟨h1, h2⟩ := codeOk_cond hok
   have hrun' : condS (codeS P X n x R H) (codeS P X n y R H) (evS R o) = .ok e R' H' := hrun
   have ho := hs.rr.eval o
   generalize evS R o = v at hrun' ho
   unfold condS at hrun'
   split at hrun'
   · rename_i t
     refine wp_cond ho.bool ?_
     cases t with
     | true => exact hc N x R H e R' H' hrun' h1 β a w hs
     | false => exact hc N y R H e R' H' hrun' h2 β a w hs
   · cases hrun'
 | block id x =>
   have hrun' : blockS id (codeS P X n x R H) = .ok e R' H' := hrun
   cases hx : codeS P X n x R H with
   | bad k l => rw [hx] at hrun'; cases hrun'
   | ok e1 R1 H1 =>
     rw [hx] at hrun'
     refine wp_block (wp_mono (hc N x R H e1 R1 H1 hx hok β a w hs) ?_)
     rintro e2 a2 w2 ⟨he, β2, h3, h4⟩
     cases e1 with
     | normal =>
       have h9 : Out.ok .normal R1 H1 = .ok e R' H' := hrun'
       cases h9
       cases e2 <;> first | exact he.elim | skip
       exact ⟨trivial, β2, h3, h4⟩
     | ret =>
       have h9 : Out.ok .ret R1 H1 = .ok e R' H' := hrun'
       cases h9
       cases e2 <;> first | exact he.elim | skip
       exact ⟨trivial, β2, h3, h4⟩
     | exit i =>
       cases e2 <;> first | exact he.elim | skip
       rename_i j
       have hij : i = j := he
       subst hij
       have h9 : (cond (Nat.beq i id) (.ok .normal R1 H1) (.ok (.exit i) R1 H1) : Out) = .ok e R' H' := hrun'
       show if i = id then _ else _
       by_cases hid : i = id
       · rw [beq_t hid] at h9
         rw [if_pos hid]
         cases h9
         exact ⟨trivial, β2, h3, h4⟩
       · rw [beq_f hid] at h9
         rw [if_neg hid]
         cases h9
         exact ⟨rfl, β2, h3, h4⟩
 | loop x => exact loop_sound (n + 1) (fun m hm => hall m (by omega)) x hrun hok hs
 | exit id => cases hrun; exact wp_exit ⟨rfl, β, St.refl _ _ _, hs⟩
 | ret => cases hrun; exact wp_ret ⟨trivial, β, St.refl _ _ _, hs⟩
 | label l => cases hrun; exact wp_label ⟨trivial, β, St.refl _ _ _, hs⟩
 | scope x =>
   refine wp_scope_straight (wp_mono (hc N x R H e R' H' hrun hok β a w hs) ?_)
   rintro e2 a2 w2 ⟨he, h3⟩
   cases e2 <;> first | (cases e <;> exact he.elim) | exact ⟨he, h3⟩
 | rangeFunc f p x y => cases hrun
 | goto l => cases hrun
 | refuse why => cases hrun
theorem code_sound {X : XF} (hX : XOk P X) (hreg : ∀ call, CallOk P call → RegionOk P call) : ∀ n, CodeSnd P (codeS P X n) := by
 intro n
 induction n using Nat.strongRecOn with
 | ind n ih =>
   cases n with
   | zero => intro N c R H e R' H' hrun; cases hrun
   | succ n => exact code_step hX hreg n (fun m hm => ih m (by omega))

theorem none_WF : WF Hp.none := by
 refine ⟨Nat.zero_le 1, ⟨Nat.le_refl 1, by decide⟩, fun k h1 h2 => ⟨Tr.inb_blank 17 k h1 (by omega), Tr.inb_blank 17 k h1 (by omega)⟩, fun b _ => Tr.get_blank 17 b, fun b q h => ?_, fun g p h => ?_, fun b b' q q' h => ?_, fun b h1 h2 => ?_⟩
 · rw [show Hp.none.tr = Tr.blank Blk 17 from rfl, Tr.get_blank] at h; cases h
 · rw [show Hp.none.grp = Tr.blank _ 17 from rfl, Tr.get_blank] at h; cases h
 · rw [show Hp.none.tr = Tr.blank Blk 17 from rfl, Tr.get_blank] at h; cases h
 · have : b < 1 := h2
   omega
/-- a call whose run is told: without arguments that lead to memory -/
theorem run_from {X : XF} (hX : XOk P X) (hreg : ∀ call, CallOk P call → RegionOk P call) (n : Nat) (f : FuncId) (args : List Value) {v : Value} {H H' : Hp} (h : callX P X n f args H = .ok v H') {β : Bij} {w : World} {args' : Array Value}
  (hw : WF H) (hr : HR (Ab H.ban) β H w) (hl : VL β args args'.toList) : Calls P f args' w (CallPost β H w v H') :=
 call_sound (code_sound hX hreg n) f args H v H' h β w args' hw hr hl
theorem run_sound (hB : ∀ b, baseAt b = none) (hR : ∀ r, baseRow r = none) {X : XF} (hX : XOk P X) (hreg : ∀ call, CallOk P call → RegionOk P call) (n : Nat) (f : FuncId) (args : List Value) (hf : ∀ x ∈ args, flatV x = true) (v : Value) (H' : Hp) (hv : flatV v = true) (h : callX P X n f args Hp.none = .ok v H') (w : World) :
  Calls P f args.toArray w fun e w' => e = .returned v ∧ Below w.heap.size w w' := by
 have hc := call_sound (code_sound hX hreg n)
 have hr : HR (Ab Hp.none.ban) (fun _ => none) Hp.none w := ⟨fun b k h => (by cases h), fun b k q h => (by cases h), fun b b' k k' q q' h => (by cases h), fun b k h => (by rw [hB] at h; cases h), fun r o e => (by rw [hR] at e; cases e), fun b k h => (by cases h)⟩
 have hl : VL (fun _ => none) args args.toArray.toList := by
  refine ⟨by simp, fun i x y hx hy => ?_⟩
  have : x = y := by
   rw [show args.toArray.toList = args by simp] at hy
   rw [hx] at hy; exact Option.some.inj hy
  subst this
  exact .flat (hf x (List.mem_of_getElem? hx))
 refine (hc f args Hp.none v H' h (fun _ => none) w args.toArray none_WF hr hl).mono ?_
 rintro e w' ⟨β', v', rfl, h1, h2, h3, h4⟩
 refine ⟨by rw [h1.of_flat hv], h2.os, h2.tape, h2.output, h2.size, fun k hk => h2.block k hk (fun b k' q hb => by cases hb)⟩
/-- a function that looks at no memory, by what it is known to tell -/
theorem pure_post {f : FuncId} {args : List Value} (hf : ∀ x ∈ args, flatV x = true) {v : Value} (hv : ∀ β : Bij, VR β v v) {H : Hp} {β : Bij} {w : World} {args' : Array Value} (h : Calls P f args.toArray w fun e w' => e = .returned v ∧ Below w.heap.size w w') (hw : WF H) (hr : HR (Ab H.ban) β H w) (hl : VL β args args'.toList) : Calls P f args' w (CallPost β H w v H) := by
 have e : args' = args.toArray := by
  apply Array.toList_inj.1
  apply List.ext_getElem?
  intro i
  rcases Nat.lt_or_ge i args.length with h1 | h1
  · have hx : args[i]? = some (args[i]) := List.getElem?_eq_getElem h1
    obtain ⟨y, hy, hv⟩ := hl.get hx
    rw [hy, hv.of_flat (hf _ (List.getElem_mem h1))]
    simp [h1]
  · have h2 := hl.1
    rw [List.getElem?_eq_none (by omega)]
    simp [h1]
 rw [e]
 refine h.mono ?_
 rintro e w' ⟨rfl, hb⟩
 have hr' : HR (Ab H.ban) β H w' := hr.world hb.size (fun b k hk => hb.block _ (hr.dom b k hk).2.1) (fun r o e => hb.block _ (lt_of_row (hr.fix r o e)))
 exact ⟨β, v, rfl, hv β, ⟨hb.os, hb.tape, hb.output, hb.size, Ext.refl _, Nat.le_refl _, rfl, rfl, fun _ h => h, fun r hr _ => hb.block r hr, fun _ _ h => .inl h, fun _ q h => ⟨q, h, rfl, rfl⟩, fun _ _ h _ _ => ⟨h, rfl⟩, fun _ h => .inl h, fun b h1 h2 => by omega⟩, hw, hr'⟩
end
end
end Go.Proofs.YtnoppoifepbchaaDoor.Sh
