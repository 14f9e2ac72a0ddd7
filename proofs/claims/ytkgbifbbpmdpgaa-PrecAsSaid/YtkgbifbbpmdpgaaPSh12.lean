/- The small machine's operations: each one; those that look at no memory. Of no program. -/
import Derived.Test.YtkgbifbbpmdpgaaPSh11
import Derived.Scope
set_option linter.unusedVariables false
set_option linter.unusedSimpArgs false
namespace Go.Proofs.Ytkgbifbbpmdpgaa.Sh
section
open Go.RowKit
variable {bs : Inhabited Base}
section
variable {P : Program} {A : Nat → Prop} {β : Bij} {H : Hp} {w : World}
def PureX (P : Program) (β : Bij) (H : Hp) (s : Sem Next) : Nx → Prop
 | .val v H' => H' = H ∧ ∃ v', VR β v v' ∧ ∀ w, s.run P w = .ok (.value v') w
 | .bad _ => True
 | _ => False
theorem Pure.x {s : Sem Value} {t : Sem Next} {n : Nx} (h : Pure P β H s n) (ht : ∀ w, t.run P w = (do pure (Next.value (← s)) : Sem Next).run P w) : PureX P β H t n := by
 cases n with
 | val v H' =>
   obtain ⟨h1, v', h2, h3⟩ := h
   exact ⟨h1, v', h2, fun w => by rw [ht]; exact run_v (h3 w)⟩
 | bad n => trivial
 | skip H' => exact h.elim
 | enter f l H' => exact h.elim
theorem pure_run {R : Regs} {a : Act} (h : RR β R a.tmps) (o : Oper) (hp : pureO o.op = true) : PureX P β H (execOp a.eval o) (opS P R H o.type o.op) := by
 cases ho : o.op with
 | move x => exact ⟨rfl, _, h.eval x, fun w => by simp [execOp, ho]⟩
 | assign x => exact ⟨rfl, _, h.eval x, fun w => by simp [execOp, ho]⟩
 | pick c x y => exact (pick_run (h.eval c) (h.eval x) (h.eval y)).x (fun w => by simp [execOp, ho])
 | nilCheck x =>
   have hx := h.eval x
   show PureX P β H _ (nilS H (evS R x))
   revert hx
   generalize evS R x = vx
   intro hx
   unfold nilS
   split
   · rename_i ad
     obtain ⟨a', hy, ha⟩ := hx.ptr_some
     cases a' with
     | none => cases ha
     | some a' => exact ⟨rfl, .pointer (some a'), by rw [← hy]; exact hx, fun w => by simp [execOp, ho, hy]⟩
   · trivial
 | fieldAddr t x f => exact (fieldAddr_run (h.eval x)).x (fun w => by simp only [execOp, ho])
 | field t x f => exact (field_run (h.eval x)).x (fun w => by simp only [execOp, ho])
 | indexAddr t x ix => exact (indexAddr_run (h.eval x) (h.eval ix)).x (fun w => by simp only [execOp, ho])
 | slice t x lo hi mx =>
   cases mx with
   | none => exact (slice_run (h.eval x) (opt_OR h lo) (opt_OR h hi)).x (fun w => by simp only [execOp, ho]; rfl)
   | some m => trivial
 | extract x k => exact (extract_run (h.eval x)).x (fun w => by simp only [execOp, ho])
 | binOp op t x y t2 => exact (binS_run (h.eval x) (h.eval y)).x (fun w => by simp only [execOp, ho])
 | unOp op t x => exact (un_run (h.eval x)).x (fun w => by simp only [execOp, ho])
 | index t x ix => exact (index_run (h.eval x) (h.eval ix)).x (fun w => by simp only [execOp, ho])
 | call c =>
   rw [ho] at hp
   have ha := args_VL h c.args
   have hm : (c.args.map a.eval) = ((c.args.map a.eval).toList).toArray := (Array.toArray_toList).symm
   have hts : c.argTypes.toList.toArray = c.argTypes := Array.toArray_toList
   have hpc : pureO (.call c) = (match c.callee with | .builtin b => pureB b | _ => false) := rfl
   rw [hpc] at hp
   have hop : opS P R H o.type (.call c) = callC P R H o.type c := rfl
   rw [hop]
   unfold callC
   cases hc : c.callee with
   | builtin b =>
     rw [hc] at hp
     simp only at hp
     have hex : ∀ w, (execOp a.eval o).run P w = (builtin b c.argTypes o.type (c.args.map fun | .const _ => true | _ => false) (c.args.map a.eval)).run P w := by
      intro w
      simp only [execOp, ho, resolve, hc, pure_bind, invoke]
      rfl
     cases b <;> first | cases hp | skip
     · refine (len_run (P := P) (H := H) (ts := c.argTypes) (t := o.type) ha).x (fun w => ?_)
       rw [hex, ← hm]; rfl
     · have := min_run (P := P) (H := H) (f := Builtin.max_) (ts := c.argTypes.toList) (t := o.type) ha 57 58
       refine Pure.x this (fun w => ?_)
       rw [hex, ← hm, hts]; rfl
     · have := min_run (P := P) (H := H) (f := Builtin.min_) (ts := c.argTypes.toList) (t := o.type) ha 55 56
       refine Pure.x this (fun w => ?_)
       rw [hex, ← hm, hts]; rfl
   | value f => rw [hc] at hp; cases hp
   | invoke r m => rw [hc] at hp; cases hp
 | _ => rw [ho] at hp; cases hp
theorem PureX.does {s : Sem Next} {n : Nx} (h : PureX P β H s n) (hw : WF H) (hr : HR A β H w) : Does P A β H w s n := by
 cases n with
 | val v H' =>
   obtain ⟨rfl, v', hv, hs⟩ := h
   exact ⟨β, v', w, hs w, St.refl _ _ _, hv, hr, hw⟩
 | bad n => trivial
 | skip H' => exact h.elim
 | enter f l H' => exact h.elim
theorem op_does (hw : WF H) (hr : HR A β H w) {R : Regs} {a : Act} (h : RR β R a.tmps) (o : Oper) (hA : ∀ i, (rddOf H R H.ban o.op).has i = true → memN H.ban i = false → A i) : Does P A β H w (execOp a.eval o) (opS P R H o.type o.op) := by
 by_cases hp : pureO o.op = true
 · exact (pure_run h o hp).does hw hr
 have hpf : pureO o.op = false := by simpa using hp
 have hA' : (∀ op, rddOf H R H.ban op = cond (pureO op) .none (.but H.ban) → op = o.op → ∀ i, memN H.ban i = false → A i) := by
  intro op e1 e2 i hi
  refine hA i ?_ hi
  rw [← e2, e1, e2, hpf]
  show (!(memN H.ban i)) = true
  rw [hi]; rfl
 cases ho : o.op with
 | alloc e =>
   have := alloc_does (P := P) (A := A) (β := β) hw hr e
   simp only [execOp, ho]
   exact this
 | box e x =>
   have := box_does (P := P) hw hr e (h.eval x)
   simp only [execOp, ho]
   exact this
 | build t ps =>
   have := (build_run (P := P) (H := H) (t := t) (parts_PL h ps)).does hw hr (A := A) (w := w)
   simp only [execOp, ho]
   rw [Array.toArray_toList] at this
   exact this
 | buildSlice t n ps =>
   have := buildSlice_does (P := P) hw hr (t := t) (len := n) (parts_PL h ps)
   simp only [execOp, ho]
   rw [Array.toArray_toList] at this
   exact this
 | load t x =>
   have := (load_run (P := P) hr (t := t) (h.eval x) (fun b q hb hq hn => hA q.grp (by rw [ho]; show (oneOf (grpAt H (placeOf (evS R x)))).has q.grp = true; rw [hb]; unfold grpAt; simp only [hq]; exact beq_t rfl) hn)).does hw hr
   simp only [execOp, ho]
   exact this
 | store t x v =>
   have := store_does (P := P) hw hr (t := t) (h.eval x) (h.eval v) (fun b q hb hq hn => hA q.grp (by rw [ho]; show (oneOf (grpAt H (placeOf (evS R x)))).has q.grp = true; rw [hb]; unfold grpAt; simp only [hq]; exact beq_t rfl) hn)
   simp only [execOp, ho]
   exact this
 | makeSlice t l c =>
   have := makeSlice_does (P := P) hw hr (t := t) (h.eval l) (h.eval c)
   simp only [execOp, ho]
   exact this
 | convert s d x =>
   have := (conv_run (P := P) hr (hA' _ rfl ho.symm) (s := s) (d := d) (h.eval x)).does hw hr
   simp only [execOp, ho]
   exact this
 | makeMap t hint =>
   cases hint with
   | some x => trivial
   | none =>
     have := makeMap_does (P := P) hw hr t
     simp only [execOp, ho]
     exact this
 | lookup t x ix ok =>
   have := (lookup_run (P := P) hr (hA' _ rfl ho.symm) (t := t) (ok := ok) (h.eval x) (h.eval ix)).does hw hr
   simp only [execOp, ho]
   exact this
 | mapUpdate t m k v =>
   have := update_does (P := P) hw hr (hA' _ rfl ho.symm) (t := t) (h.eval m) (h.eval k) (h.eval v)
   simp only [execOp, ho]
   exact this
 | call c =>
   have hA2 := hA' _ rfl ho.symm
   simp only [execOp, ho]
   show Does P A β H w _ (callC P R H o.type c)
   unfold callC
   cases hc : c.callee with
   | builtin b => exact builtin_does hw hr h c b hc o.type (fun _ => hA2)
   | value f => exact call_does hw hr hA2 h c f hc o.type
   | invoke r m => trivial
 | _ => first | (rw [ho] at hpf; cases hpf; done) | (simp only [opS]; trivial)
end
end
section
open Go.RowKit
variable {bs : Inhabited Base}
def Ab (ban : List Nat) : Nat → Prop := fun b => memN ban b = false
structure S [Inhabited Base] (N : Nat) (β : Bij) (R : Regs) (H : Hp) (a : Act) (w : World) : Prop where
 wf : WF H
 hr : HR (Ab H.ban) β H w
 rr : RR β R a.tmps
 wide : Wide R
 most : N ≤ 1000
 size : N ≤ a.tmps.size
 top : a.tmps.size ≤ 1000
 defers : a.defers = []
theorem S.put {N : Nat} {β β' : Bij} {R : Regs} {H H' : Hp} {a : Act} {w w' : World} (h : S N β R H a w) (hs : St β H w β' H' w') (hw : WF H') (hr : HR (Ab H.ban) β' H' w') {v v' : Value} (hv : VR β' v v') (d : Option Tmp) (hd : dstOk N d = true) :
  S N β' (putR R v d) H' (a.put d v') w' :=
 ⟨hw, by rw [hs.ban]; exact hr, (h.rr.mono hs.ext).put h.wide h.most h.size hv d hd, h.wide.put v d, h.most, by rw [put_size]; exact h.size, by rw [put_size]; exact h.top, by rw [put_defers]; exact h.defers⟩
def CallPost [Inhabited Base] (β : Bij) (H : Hp) (w : World) (v : Value) (H' : Hp) (e : Ending) (w' : World) : Prop :=
 ∃ β' v', e = .returned v' ∧ VR β' v v' ∧ St β H w β' H' w' ∧ WF H' ∧ HR (Ab H.ban) β' H' w'
def CallOk [Inhabited Base] (P : Program) (call : FuncId → List Value → Hp → Ret) : Prop :=
 ∀ f args H v H', call f args H = .ok v H' → ∀ β w (args' : Array Value), WF H → HR (Ab H.ban) β H w → VL β args args'.toList → Calls P f args' w (CallPost β H w v H')
section
variable {P : Program} {N : Nat} {β : Bij}
theorem wanted_eq {ops : Array Oper} {R : Regs} {a : Act} (h : RR β R a.tmps) {o : Oper} {t : Bool} (ht : wantedS ops.toList R o.guard = some t) : Region.wanted o (yielded ops a.tmps) = t := by
 unfold Region.wanted
 unfold wantedS at ht
 cases hg : o.guard with
 | none => rw [hg] at ht; cases ht; rfl
 | some p =>
   obtain ⟨j, want⟩ := p
   rw [hg] at ht
   simp only at ht ⊢
   unfold yielded
   rw [nth_eq] at ht
   have e1 : ops.toList[j]? = ops[j]? := by simp
   rw [e1] at ht
   cases hd : (ops[j]?).bind (·.dst) with
   | none => rw [hd] at ht; cases ht; rfl
   | some d =>
     rw [hd] at ht
     simp only [Option.bind_some] at ht ⊢
     have hv := h d
     have key : ∀ b, a.tmps[d]? = some (.bool b) ↔ a.tmps.getD d undef = .bool b := by
      intro b
      rw [Array.getD_eq_getD_getElem?]
      cases a.tmps[d]? with
      | none => simp [undef]
      | some v => simp
     unfold yieldS at ht
     split at ht
     · rename_i b hb
       rw [hb] at hv
       have := (key b).2 hv.bool
       rw [this]
       cases ht
       cases b <;> cases want <;> rfl
     · cases ht
     · rename_i h1 h2
       cases ht
       split
       · rename_i b hb
         have hb' := (key b).1 hb
         rw [hb'] at hv
         generalize getR R d = x at hv h1 h2
         cases hv with
         | any v => exact absurd rfl (h2 _)
         | atom h => exact absurd rfl (h1 b)
       · rfl
theorem ops_sound {call : FuncId → List Value → Hp → Ret} (hc : CallOk P call) (ops : Array Oper) (Q : Exit → Act → World → Prop) : ∀ (l : List Oper) (k : Nat), ops.toList.drop k = l → opsOk N l = true → ∀ (R : Regs) (H : Hp) (e : Ex) (R' : Regs) (H' : Hp), opsS P call ops.toList l R H = .ok e R' H' →
  ∀ (β : Bij) (a : Act) (w : World), S N β R H a w → (∀ β' a' w', e = .normal → St β H w β' H' w' → S N β' R' H' a' w' → Q .normal a' w') → wpOps P ops Q (List.range' k l.length) a w := by
 intro l
 induction l with
 | nil =>
   intro k hk hok R H e R' H' hrun β a w hs hq
   cases hrun
   exact hq β a w rfl (St.refl _ _ _) hs
 | cons o l ih =>
   intro k hk hok R H e R' H' hrun β a w hs hq
   have hok' : cond (dstOk N o.dst) (opsOk N l) false = true := hok
   have hd : dstOk N o.dst = true := by
    cases h : dstOk N o.dst with
    | true => rfl
    | false => rw [h] at hok'; cases hok'
   have hol : opsOk N l = true := by rw [hd] at hok'; exact hok'
   have hk' : ops.toList.drop (k + 1) = l := by
    have := congrArg List.tail hk
    rw [List.tail_drop] at this; exact this
   have ho : ops[k]? = some o := by
    have := congrArg List.head? hk
    rw [List.head?_drop] at this
    simpa using this
   have hrun' : wantS (nextS call (fun v H => opsS P call ops.toList l (putR R v o.dst) H) o.pos (opS P R H o.type o.op)) (opsS P call ops.toList l (putR R undefS o.dst) H) (wantedS ops.toList R o.guard) = .ok e R' H' := hrun
   rw [List.length_cons, List.range'_succ]
   simp only [wpOps, ho]
   cases hwt : wantedS ops.toList R o.guard with
   | none => rw [hwt] at hrun'; cases hrun'
   | some t =>
     rw [hwt] at hrun'
     have hw := wanted_eq hs.rr hwt
     cases t with
     | false =>
       rw [hw, if_neg (by simp)]
       exact ih (k + 1) hk' hol _ _ _ _ _ hrun' β _ w (hs.put (St.refl _ _ _) hs.wf hs.hr (VR.undef β) o.dst hd) hq
     | true =>
       rw [hw, if_pos rfl]
       left
       have hdo := op_does (P := P) hs.wf hs.hr hs.rr o (fun i _ hi => hi)
       have hrun2 : nextS call (fun v H => opsS P call ops.toList l (putR R v o.dst) H) o.pos (opS P R H o.type o.op) = .ok e R' H' := hrun'
       unfold Oper.wp
       cases hop : opS P R H o.type o.op with
       | val v H1 =>
         rw [hop] at hdo hrun2
         obtain ⟨β1, v', w1, h1, h2, h3, h4, h5⟩ := hdo
         rw [h1, Oper.upon_value]
         exact ih (k + 1) hk' hol _ _ _ _ _ hrun2 β1 _ w1 (hs.put h2 h5 h4 h3 o.dst hd) (fun β' a' w' he hst => hq β' a' w' he (St.tr hs.hr h4 hs.wf h2 hst))
       | skip H1 =>
         rw [hop] at hdo hrun2
         obtain ⟨w1, h1, h2, h4, h5⟩ := hdo
         rw [h1, Oper.upon_skip]
         exact ih (k + 1) hk' hol _ _ _ _ _ hrun2 β _ w1 (hs.put h2 h5 h4 (VR.undef β) o.dst hd) (fun β' a' w' he hst => hq β' a' w' he (St.tr hs.hr h4 hs.wf h2 hst))
       | enter f args H1 =>
         rw [hop] at hdo hrun2
         obtain ⟨rfl, args', h1, h2⟩ := hdo
         rw [h1, Oper.upon_enter]
         have hrun3 : (match call f args H1 with | .ok v H => opsS P call ops.toList l (putR R v o.dst) H | .bad why l => .bad why (o.pos :: l)) = .ok e R' H' := (nextS_enter ..).symm.trans hrun2
         cases hcl : call f args H1 with
         | bad n l => rw [hcl] at hrun3; cases hrun3
         | ok v H2 =>
           rw [hcl] at hrun3
           refine (hc f args H1 v H2 hcl β w args' hs.wf hs.hr h2).mono ?_
           rintro e1 w1 ⟨β1, v', rfl, h3, h4, h5, h6⟩
           exact ih (k + 1) hk' hol _ _ _ _ _ hrun3 β1 _ w1 (hs.put h4 h5 h6 h3 o.dst hd) (fun β' a' w' he hst => hq β' a' w' he (St.tr hs.hr h6 hs.wf h4 hst))
       | bad n => rw [hop] at hrun2; cases hrun2
def ExR : Ex → Exit → Prop
 | .normal, .normal => True
 | .exit i, .exit j => i = j
 | .ret, .ret => True
 | _, _ => False
def CodePost [Inhabited Base] (N : Nat) (β : Bij) (H : Hp) (w : World) (e0 : Ex) (R' : Regs) (H' : Hp) (e : Exit) (a' : Act) (w' : World) : Prop :=
 ExR e0 e ∧ ∃ β', St β H w β' H' w' ∧ S N β' R' H' a' w'
def CodeSnd [Inhabited Base] (P : Program) (code : Code → Regs → Hp → Out) : Prop :=
 ∀ N c R H e R' H', code c R H = .ok e R' H' → codeOk N c = true → ∀ β a w, S N β R H a w → c.wp P (CodePost N β H w e R' H') a w
def RegionOk [Inhabited Base] (P : Program) (call : FuncId → List Value → Hp → Ret) : Prop :=
 ∀ N id ops R H e R' H' draw, regionS P call (Array.toList ops) R H draw = .ok e R' H' → opsOk N ops.toList = true → ∀ β a w, S N β R H a w → (Code.region id ops draw).wp P (CodePost N β H w e R' H') a w
theorem codeOk_seq {a b : Code} (h : codeOk N (.seq a b) = true) : codeOk N a = true ∧ codeOk N b = true := by
 have h' : cond (codeOk N a) (codeOk N b) false = true := h
 cases ha : codeOk N a with
 | true => rw [ha] at h'; exact ⟨rfl, h'⟩
 | false => rw [ha] at h'; cases h'
theorem codeOk_cond {c : Operand} {a b : Code} (h : codeOk N (.cond c a b) = true) : codeOk N a = true ∧ codeOk N b = true := by
 have h' : cond (codeOk N a) (codeOk N b) false = true := h
 cases ha : codeOk N a with
 | true => rw [ha] at h'; exact ⟨rfl, h'⟩
 | false => rw [ha] at h'; cases h'
theorem post_trans {N : Nat} {A A1 : Nat → Prop} {β β1 : Bij} {H H1 : Hp} {w w1 : World} (hr : HR A β H w) (hr1 : HR A1 β1 H1 w1) (hw : WF H) (h : St β H w β1 H1 w1) {e0 : Ex} {R' : Regs} {H' : Hp} {e : Exit} {a' : Act} {w' : World} (hp : CodePost N β1 H1 w1 e0 R' H' e a' w') : CodePost N β H w e0 R' H' e a' w' := by
 obtain ⟨h1, β', h2, h3⟩ := hp
 exact ⟨h1, β', St.tr hr hr1 hw h h2, h3⟩
end
end
section
open Go.RowKit
variable {bs : Inhabited Base}
section
variable {P : Program} {N : Nat} {β : Bij}
theorem region_plain {call : FuncId → List Value → Hp → Ret} (hc : CallOk P call) {id : Nat} {ops : Array Oper} {R : Regs} {H : Hp} {e : Ex} {R' : Regs} {H' : Hp} (hrun : regionS P call ops.toList R H false = .ok e R' H') (hok : opsOk N ops.toList = true) {a : Act} {w : World} (hs : S N β R H a w) :
  (Code.region id ops false).wp P (CodePost N β H w e R' H') a w := by
 have hrun' : opsS P call ops.toList ops.toList R H = .ok e R' H' := hrun
 have he : e = .normal := by
  have : ∀ (l : List Oper) (R : Regs) (H : Hp) (e : Ex) (R' : Regs) (H' : Hp), opsS P call ops.toList l R H = .ok e R' H' → e = .normal := by
   intro l
   induction l with
   | nil => intro R H e R' H' h; cases h; rfl
   | cons o l ih =>
     intro R H e R' H' h
     have h' : wantS (nextS call (fun v H => opsS P call ops.toList l (putR R v o.dst) H) o.pos (opS P R H o.type o.op)) (opsS P call ops.toList l (putR R undefS o.dst) H) (wantedS ops.toList R o.guard) = .ok e R' H' := h
     cases hw : wantedS ops.toList R o.guard with
     | none => rw [hw] at h'; cases h'
     | some t =>
       rw [hw] at h'
       cases t with
       | false => exact ih _ _ _ _ _ h'
       | true =>
         have h2 : nextS call (fun v H => opsS P call ops.toList l (putR R v o.dst) H) o.pos (opS P R H o.type o.op) = .ok e R' H' := h'
         cases hop : opS P R H o.type o.op with
         | val v H1 => rw [hop] at h2; exact ih _ _ _ _ _ h2
         | skip H1 => rw [hop] at h2; exact ih _ _ _ _ _ h2
         | enter f args H1 =>
           rw [hop] at h2
           have h3 : (match call f args H1 with | .ok v H => opsS P call ops.toList l (putR R v o.dst) H | .bad why l => .bad why (o.pos :: l)) = .ok e R' H' := (nextS_enter ..).symm.trans h2
           cases hcl : call f args H1 with
           | bad n l => rw [hcl] at h3; cases h3
           | ok v H2 => rw [hcl] at h3; exact ih _ _ _ _ _ h3
         | bad n => rw [hop] at h2; cases h2
  exact this _ _ _ _ _ _ hrun'
 subst he
 refine wp_region ?_
 have := ops_sound hc ops (CodePost N β H w .normal R' H') ops.toList 0 (by simp) hok R H .normal R' H' hrun' β a w hs (fun β' a' w' _ hst hs' => ⟨trivial, β', hst, hs'⟩)
 rw [List.range_eq_range']
 simpa using this
theorem loop_sound {X : XF} (n : Nat) (hb : ∀ m, m < n → CodeSnd P (codeS P X m)) (c : Code) {R : Regs} {H : Hp} {e : Ex} {R' : Regs} {H' : Hp} (hrun : codeS P X n (.loop c) R H = .ok e R' H') (hok : codeOk N c = true) {a : Act} {w : World} (hs : S N β R H a w) :
  (Code.loop c).wp P (CodePost N β H w e R' H') a w := by
 let J : Nat → Act → World → Prop := fun m a1 w1 => m ≤ n ∧ ∃ β1 R1 H1, St β H w β1 H1 w1 ∧ S N β1 R1 H1 a1 w1 ∧ codeS P X m (.loop c) R1 H1 = .ok e R' H'
 have hle : ∀ (a1 : Act) (w1 : World), (∃ m, J m a1 w1) → ∃ m, J m a1 w1 ∧ ∀ m', J m' a1 w1 → m ≤ m' := by
  intro a1 w1 ⟨m0, h0⟩
  induction m0 using Nat.strongRecOn with
  | ind m0 ih =>
    by_cases hx : ∃ m', m' < m0 ∧ J m' a1 w1
    · obtain ⟨m', h1, h2⟩ := hx; exact ih m' h1 h2
    · exact ⟨m0, h0, fun m' h' => by
       rcases Nat.lt_or_ge m' m0 with h | h
       · exact absurd ⟨m', h, h'⟩ hx
       · exact h⟩
 let μ : Act → World → Nat := fun a1 w1 => @dite _ (∃ m, J m a1 w1) (Classical.propDecidable _) (fun h => Classical.choose (hle a1 w1 h)) (fun _ => 0)
 have hμ : ∀ a1 w1, (h : ∃ m, J m a1 w1) → J (μ a1 w1) a1 w1 ∧ ∀ m', J m' a1 w1 → μ a1 w1 ≤ m' := by
  intro a1 w1 h
  have e1 : μ a1 w1 = Classical.choose (hle a1 w1 h) := by
   show @dite _ (∃ m, J m a1 w1) (Classical.propDecidable _) _ _ = _
   rw [dif_pos h]
  rw [e1]
  exact Classical.choose_spec (hle a1 w1 h)
 refine wp_loop (fun a1 w1 => ∃ m, J m a1 w1) μ ⟨n, Nat.le_refl _, β, R, H, St.refl _ _ _, hs, hrun⟩ ?_
 intro a1 w1 hI
 obtain ⟨⟨h1, β1, R1, H1, h2, h3, h4⟩, h5⟩ := hμ a1 w1 hI
 generalize hm : μ a1 w1 = m at h1 h4 h5
 cases m with
 | zero => cases h4
 | succ m =>
   have h6 : seqS (codeS P X m (.loop c)) (codeS P X m c R1 H1) = .ok e R' H' := h4
   cases hbody : codeS P X m c R1 H1 with
   | bad n l => rw [hbody] at h6; cases h6
   | ok e1 R2 H2 =>
     rw [hbody] at h6
     have hw := hb m (by omega) N c R1 H1 e1 R2 H2 hbody hok β1 a1 w1 h3
     refine wp_mono hw ?_
     rintro e2 a2 w2 ⟨he, β2, h7, h8⟩
     cases e1 with
     | normal =>
       cases e2 <;> first | exact he.elim | skip
       have h9 : codeS P X m (.loop c) R2 H2 = .ok e R' H' := h6
       have hJ : J m a2 w2 := ⟨by omega, β2, R2, H2, St.tr hs.hr h3.hr hs.wf h2 h7, h8, h9⟩
       exact ⟨⟨m, hJ⟩, by have := (hμ a2 w2 ⟨m, hJ⟩).2 m hJ; omega⟩
     | exit i =>
       have h9 : Out.ok (.exit i) R2 H2 = .ok e R' H' := h6
       cases h9
       cases e2 <;> first | exact he.elim | skip
       exact ⟨he, β2, St.tr hs.hr h3.hr hs.wf h2 h7, h8⟩
     | ret =>
       have h9 : Out.ok .ret R2 H2 = .ok e R' H' := h6
       cases h9
       cases e2 <;> first | exact he.elim | skip
       exact ⟨he, β2, St.tr hs.hr h3.hr hs.wf h2 h7, h8⟩
theorem regsOf_RR {l m : List Value} (h : VL β l m) : ∀ (k : Nat) (R : Regs) (a : Array Value), RR β R a → Wide R → k + l.length ≤ a.size → k + l.length ≤ 1000 → RR β (regsOf l k R) (a.toList.take k ++ (m ++ a.toList.drop (k + m.length))).toArray ∧ Wide (regsOf l k R) := by
 induction l generalizing m with
 | nil =>
   intro k R a hr hw hs hn
   obtain rfl : m = [] := List.eq_nil_of_length_eq_zero (by have := h.1; simpa using this.symm)
   refine ⟨?_, hw⟩
   show RR β R _
   simpa using hr
 | cons x l ih =>
   intro k R a hr hw hs hn
   obtain ⟨y, m, rfl, hx, hl⟩ := h.uncons
   simp only [List.length_cons] at hs hn
   have h1 := hr.set k (by omega) (by omega) hw hx
   have h2 : Wide (R.set x (Nat.succ k)) := fun j hj => by rw [Tr.inb_set]; exact hw j hj
   obtain ⟨h3, h4⟩ := ih hl (k + 1) (R.set x (Nat.succ k)) (a.setIfInBounds k y) h1 h2 (by simp; omega) (by omega)
   refine ⟨?_, h4⟩
   show RR β (regsOf l (k + 1) (R.set x (Nat.succ k))) _
   have e : (a.toList.take k ++ (y :: m ++ a.toList.drop (k + (y :: m).length))).toArray = ((a.setIfInBounds k y).toList.take (k + 1) ++ (m ++ (a.setIfInBounds k y).toList.drop (k + 1 + m.length))).toArray := by
    congr 1
    have hk : k < a.toList.length := by rw [Array.length_toList]; omega
    simp only [Array.toList_setIfInBounds, List.length_cons]
    rw [List.take_succ_eq_append_getElem (by simpa using hk), List.take_set_of_le (Nat.le_refl _), List.getElem_set_self, List.drop_set_of_lt (by omega)]
    simp only [List.append_assoc, List.singleton_append, List.cons_append]
    rw [show k + (m.length + 1) = k + 1 + m.length by omega]
    rfl
   rw [e]; exact h3
def resV (tmps : Array Value) : ResultVar → Sem Value
 | .tmp t => pure (tmps.getD t undef)
 | .cell a t => do loadVar t (← asAddr (tmps.getD a undef))
theorem res_run {A : Nat → Prop} {H : Hp} {w : World} (hr : HR A β H w) (hA : ∀ b, memN H.ban b = false → A b) {R : Regs} {tmps : Array Value} (h : RR β R tmps) : ∀ (l : List ResultVar) (vs : List Value), ressS P R H l = some vs →
  ∃ us, VL β vs us ∧ (l.mapM (resV tmps) : Sem (List Value)).run P w = .ok us w
 | [], vs, e => by cases e; exact ⟨[], VL.nil β, by simp⟩
 | x :: l, vs, e => by
   have e' : (match resS P R H x, ressS P R H l with | some v, some l => some (v :: l) | _, _ => none) = some vs := e
   split at e'
   · rename_i v r hv hl
     cases e'
     obtain ⟨us, h1, h2⟩ := res_run hr hA h l r hl
     have hx : ∃ u, VR β v u ∧ (resV tmps x).run P w = .ok u w := by
      cases x with
      | tmp t => cases hv; exact ⟨_, h t, rfl⟩
      | cell a t =>
        have hv' : (match loadS P H t (getR R a) with | .val v _ => some v | _ => none) = some v := hv
        have hld := load_run (P := P) hr (t := t) (h a) (fun b q _ _ hb => hA q.grp hb)
        cases hlo : loadS P H t (getR R a) with
        | val v0 H0 =>
          rw [hlo] at hv' hld
          cases hv'
          obtain ⟨_, u, hu, hrun⟩ := hld
          refine ⟨u, hu, ?_⟩
          have hp : ∃ ad, tmps.getD a undef = .pointer (some ad) := by
           have hva := h a
           unfold loadS at hlo
           split at hlo
           · rename_i b off hb
             rw [hb] at hva
             obtain ⟨k, hk, hy⟩ := hva.ptr_inv (sp := none)
             exact ⟨_, hy⟩
           · cases hlo
          obtain ⟨ad, hp⟩ := hp
          rw [hp] at hrun
          simp only [Instr.loadAt, Instr.sureAddr, Sem.run_bind, Sem.run_pure, Result.andThen_ok] at hrun
          simp only [resV, hp, asAddr, Sem.run_bind, Sem.run_pure, Result.andThen_ok]
          exact hrun
        | skip H0 => rw [hlo] at hv'; cases hv'
        | enter f g H0 => rw [hlo] at hv'; cases hv'
        | bad n => rw [hlo] at hv'; cases hv'
     obtain ⟨u, h3, h4⟩ := hx
     refine ⟨u :: us, VL.cons h3 h1, ?_⟩
     rw [List.mapM_cons]
     simp only [Sem.run_bind, h4, Result.andThen_ok, h2, Sem.run_pure]
   · cases e'
theorem results_run {A : Nat → Prop} {H : Hp} {w : World} (hr : HR A β H w) (hA : ∀ b, memN H.ban b = false → A b) {R : Regs} {tmps : Array Value} (h : RR β R tmps) (fn : Func) {v : Value} {H' : Hp} (e : retL H (ressS P R H fn.results.toList) = .ok v H') :
  H' = H ∧ ∃ u, VR β v u ∧ (results fn tmps).run P w = .ok u w := by
 cases hl : ressS P R H fn.results.toList with
 | none => rw [hl] at e; cases e
 | some vs =>
   rw [hl] at e
   obtain ⟨us, h1, h2⟩ := res_run (P := P) hr hA h _ vs hl
   have hrun : (results fn tmps).run P w = .ok (if h : us.toArray.size = 1 then us.toArray[0] else .tuple us.toArray) w := by
    have e0 : results fn tmps = (do let vs ← fn.results.mapM (resV tmps); pure (if h : vs.size = 1 then vs[0] else .tuple vs)) := rfl
    rw [e0, Array.mapM_eq_mapM_toList]
    simp only [Sem.run_bind, Sem.run_map, h2, Result.andThen_ok, Sem.run_pure]
   rw [hrun]
   unfold retL at e
   split at e
   · rename_i v0 hv
     cases hv
     cases e
     obtain ⟨u, r, rfl, h3, h4⟩ := h1.uncons
     obtain rfl : r = [] := by have := h4.1; simpa using this.symm
     exact ⟨rfl, u, h3, by simp⟩
   · rename_i vs0 hne hv
     cases hv
     cases e
     have hlen : us.length ≠ 1 := by
      rw [← h1.1]
      intro h5
      obtain ⟨v0, rfl⟩ := List.length_eq_one_iff.1 h5
      exact hne v0 rfl
     refine ⟨rfl, .tuple us.toArray, .tuple (by simpa using h1.1) (by simpa using h1.2), ?_⟩
     rw [dif_neg (by simpa using hlen)]
   · cases e
end
end
end Go.Proofs.Ytkgbifbbpmdpgaa.Sh
