/- The small machine's operations: each one; those that look at no memory. Of no program. -/
import Derived.Test.YtnoppoifepbchaaDoorShA
import Derived.Scope
import Derived.Calls
import Derived.Test.YtnoppoifepbchaaDoorRows
import Derived.KernelRfl
import Derived.Test.YtnoppoifepbchaaDoorScan
import Derived.Test.YtnoppoifepbchaaDoorShelfAtoi
import Derived.Test.YtnoppoifepbchaaDoorShelf
import Derived.Test.YtnoppoifepbchaaDoorZA
import Derived.Lib.IndexMore
import Derived.Lib.AtoiAll
import Derived.Lib.Hide
namespace Go.Proofs.YtnoppoifepbchaaDoor.Sh
section
open Go.RowKit
set_option linter.unusedVariables false
set_option linter.unusedSimpArgs false
variable {bs : Inhabited Base}

section
variable {P : Program} {A : Nat → Prop} {β : Bij} {H : Hp} {w : World}

/-- what looks at no memory is told whatever the world -/
def PureX (P : Program) (β : Bij) (H : Hp) (s : Sem Next) : Nx → Prop
 | .val v H' => H' = H ∧ ∃ v', VR β v v' ∧ ∀ w, s.run P w = .ok (.value v') w
 | .bad _ => True
 | _ => False
theorem Pure.x {s : Sem Value} {t : Sem Next} {n : Nx} (h : Pure P β H s n) (ht : ∀ w, t.run P w = (do pure (Next.value (← s)) : Sem Next).run P w) : PureX P β H t n := by
 cases n with
 | val v H' =>
   obtain ⟨h1, v', h2, h3⟩ := h
   exact ⟨h1, v', h2, fun w => by rw [ht]; exact run_v (h3 w)⟩
 | bad n => trivial
 | skip H' => exact h.elim
 | enter f l H' => exact h.elim
theorem pure_run {R : Regs} {a : Act} (h : RR β R a.tmps) (o : Oper) (hp : pureO o.op = true) : PureX P β H (execOp a.eval o) (opS P R H o.type o.op) := by
 cases ho : o.op with
 | move x => exact ⟨rfl, _, h.eval x, fun w => by simp [execOp, ho]⟩
 | assign x => exact ⟨rfl, _, h.eval x, fun w => by simp [execOp, ho]⟩
 | pick c x y => exact (pick_run (h.eval c) (h.eval x) (h.eval y)).x (fun w => by simp [execOp, ho])
 | nilCheck x =>
   have hx := h.eval x
   show PureX P β H _ (nilS H (evS R x))
   revert hx
   generalize evS R x = vx
   intro hx
   unfold nilS
   split
   · rename_i ad
     obtain ⟨a', hy, ha⟩ := hx.ptr_some
     cases a' with
     | none => cases ha
     | some a' => exact ⟨rfl, .pointer (some a'), by rw [← hy]; exact hx, fun w => by simp [execOp, ho, hy]⟩
   · trivial
 | fieldAddr t x f => exact (fieldAddr_run (h.eval x)).x (fun w => by simp only [execOp, ho])
 | field t x f => exact (field_run (h.eval x)).x (fun w => by simp only [execOp, ho])
 | indexAddr t x ix => exact (indexAddr_run (h.eval x) (h.eval ix)).x (fun w => by simp only [execOp, ho])
 | slice t x lo hi mx =>
   cases mx with
   | none => exact (slice_run (h.eval x) (opt_OR h lo) (opt_OR h hi)).x (fun w => by simp only [execOp, ho]; rfl)
   | some m => trivial
 | extract x k => exact (extract_run (h.eval x)).x (fun w => by simp only [execOp, ho])
 | binOp op t x y t2 => exact (binS_run (h.eval x) (h.eval y)).x (fun w => by simp only [execOp, ho])
 | unOp op t x => exact (un_run (h.eval x)).x (fun w => by simp only [execOp, ho])
 | index t x ix => exact (index_run (h.eval x) (h.eval ix)).x (fun w => by simp only [execOp, ho])
 | call c =>
   rw [ho] at hp
   have ha := args_VL h c.args
   have hm : (c.args.map a.eval) = ((c.args.map a.eval).toList).toArray := (Array.toArray_toList).symm
   have hts : c.argTypes.toList.toArray = c.argTypes := Array.toArray_toList
   have hpc : pureO (.call c) = (match c.callee with | .builtin b => pureB b | _ => false) := rfl
   rw [hpc] at hp
   have hop : opS P R H o.type (.call c) = callC P R H o.type c := rfl
   rw [hop]
   unfold callC
   cases hc : c.callee with
   | builtin b =>
     rw [hc] at hp
     simp only at hp
     have hex : ∀ w, (execOp a.eval o).run P w = (builtin b c.argTypes o.type (c.args.map fun | .const _ => true | _ => false) (c.args.map a.eval)).run P w := by
      intro w
      simp only [execOp, ho, resolve, hc, pure_bind, invoke]
      rfl
     cases b <;> first | cases hp | skip
     · refine (len_run (P := P) (H := H) (ts := c.argTypes) (t := o.type) ha).x (fun w => ?_)
       rw [hex, ← hm]; rfl
     · have := min_run (P := P) (H := H) (f := Builtin.max_) (ts := c.argTypes.toList) (t := o.type) ha 57 58
       refine Pure.x this (fun w => ?_)
       rw [hex, ← hm, hts]; rfl
     · have := min_run (P := P) (H := H) (f := Builtin.min_) (ts := c.argTypes.toList) (t := o.type) ha 55 56
       refine Pure.x this (fun w => ?_)
       rw [hex, ← hm, hts]; rfl
   | value f => rw [hc] at hp; cases hp
   | invoke r m => rw [hc] at hp; cases hp
 | _ => rw [ho] at hp; cases hp
theorem PureX.does {s : Sem Next} {n : Nx} (h : PureX P β H s n) (hw : WF H) (hr : HR A β H w) : Does P A β H w s n := by
 cases n with
 | val v H' =>
   obtain ⟨rfl, v', hv, hs⟩ := h
   exact ⟨β, v', w, hs w, St.refl _ _ _, hv, hr, hw⟩
 | bad n => trivial
 | skip H' => exact h.elim
 | enter f l H' => exact h.elim
theorem op_does (hw : WF H) (hr : HR A β H w) {R : Regs} {a : Act} (h : RR β R a.tmps) (o : Oper) (hA : ∀ i, (rddOf H R H.ban o.op).has i = true → memN H.ban i = false → A i) : Does P A β H w (execOp a.eval o) (opS P R H o.type o.op) := by
 by_cases hp : pureO o.op = true
 · exact (pure_run h o hp).does hw hr
 have hpf : pureO o.op = false := by simpa using hp
 have hA' : (∀ op, rddOf H R H.ban op = cond (pureO op) .none (.but H.ban) → op = o.op → ∀ i, memN H.ban i = false → A i) := by
  intro op e1 e2 i hi
  refine hA i ?_ hi
  rw [← e2, e1, e2, hpf]
  show (!(memN H.ban i)) = true
  rw [hi]; rfl
 cases ho : o.op with
 | alloc e =>
   have := alloc_does (P := P) (A := A) (β := β) hw hr e
   simp only [execOp, ho]
   exact this
 | box e x =>
   have := box_does (P := P) hw hr e (h.eval x)
   simp only [execOp, ho]
   exact this
 | build t ps =>
   have := (build_run (P := P) (H := H) (t := t) (parts_PL h ps)).does hw hr (A := A) (w := w)
   simp only [execOp, ho]
   rw [Array.toArray_toList] at this
   exact this
 | buildSlice t n ps =>
   have := buildSlice_does (P := P) hw hr (t := t) (len := n) (parts_PL h ps)
   simp only [execOp, ho]
   rw [Array.toArray_toList] at this
   exact this
 | load t x =>
   have := (load_run (P := P) hr (t := t) (h.eval x) (fun b q hb hq hn => hA q.grp (by rw [ho]; show (oneOf (grpAt H (placeOf (evS R x)))).has q.grp = true; rw [hb]; unfold grpAt; simp only [hq]; exact beq_t rfl) hn)).does hw hr
   simp only [execOp, ho]
   exact this
 | store t x v =>
   have := store_does (P := P) hw hr (t := t) (h.eval x) (h.eval v) (fun b q hb hq hn => hA q.grp (by rw [ho]; show (oneOf (grpAt H (placeOf (evS R x)))).has q.grp = true; rw [hb]; unfold grpAt; simp only [hq]; exact beq_t rfl) hn)
   simp only [execOp, ho]
   exact this
 | makeSlice t l c =>
   have := makeSlice_does (P := P) hw hr (t := t) (h.eval l) (h.eval c)
   simp only [execOp, ho]
   exact this
 | convert s d x =>
   have := (conv_run (P := P) hr (hA' _ rfl ho.symm) (s := s) (d := d) (h.eval x)).does hw hr
   simp only [execOp, ho]
   exact this
 | makeMap t hint =>
   cases hint with
   | some x => trivial
   | none =>
     have := makeMap_does (P := P) hw hr t
     simp only [execOp, ho]
     exact this
 | lookup t x ix ok =>
   have := (lookup_run (P := P) hr (hA' _ rfl ho.symm) (t := t) (ok := ok) (h.eval x) (h.eval ix)).does hw hr
   simp only [execOp, ho]
   exact this
 | mapUpdate t m k v =>
   have := update_does (P := P) hw hr (hA' _ rfl ho.symm) (t := t) (h.eval m) (h.eval k) (h.eval v)
   simp only [execOp, ho]
   exact this
 | call c =>
   have hA2 := hA' _ rfl ho.symm
   simp only [execOp, ho]
   show Does P A β H w _ (callC P R H o.type c)
   unfold callC
   cases hc : c.callee with
   | builtin b => exact builtin_does hw hr h c b hc o.type (fun _ => hA2)
   | value f => exact call_does hw hr hA2 h c f hc o.type
   | invoke r m => trivial
 | _ => first | (rw [ho] at hpf; cases hpf; done) | (simp only [opS]; trivial)
end
end
section
open Go.RowKit
set_option linter.unusedVariables false
set_option linter.unusedSimpArgs false
variable {bs : Inhabited Base}

def Ab (ban : List Nat) : Nat → Prop := fun b => memN ban b = false
/-- a state, in both -/
structure S [Inhabited Base] (N : Nat) (β : Bij) (R : Regs) (H : Hp) (a : Act) (w : World) : Prop where
 wf : WF H
 hr : HR (Ab H.ban) β H w
 rr : RR β R a.tmps
 wide : Wide R
 most : N ≤ 1000
 size : N ≤ a.tmps.size
 top : a.tmps.size ≤ 1000
 defers : a.defers = []
theorem S.put {N : Nat} {β β' : Bij} {R : Regs} {H H' : Hp} {a : Act} {w w' : World} (h : S N β R H a w) (hs : St β H w β' H' w') (hw : WF H') (hr : HR (Ab H.ban) β' H' w') {v v' : Value} (hv : VR β' v v') (d : Option Tmp) (hd : dstOk N d = true) :
  S N β' (putR R v d) H' (a.put d v') w' :=
 ⟨hw, by rw [hs.ban]; exact hr, (h.rr.mono hs.ext).put h.wide h.most h.size hv d hd, h.wide.put v d, h.most, by rw [put_size]; exact h.size, by rw [put_size]; exact h.top, by rw [put_defers]; exact h.defers⟩

/-- what a call leaves -/
def CallPost [Inhabited Base] (β : Bij) (H : Hp) (w : World) (v : Value) (H' : Hp) (e : Ending) (w' : World) : Prop :=
 ∃ β' v', e = .returned v' ∧ VR β' v v' ∧ St β H w β' H' w' ∧ WF H' ∧ HR (Ab H.ban) β' H' w'
def CallOk [Inhabited Base] (P : Program) (call : FuncId → List Value → Hp → Ret) : Prop :=
 ∀ f args H v H', call f args H = .ok v H' → ∀ β w (args' : Array Value), WF H → HR (Ab H.ban) β H w → VL β args args'.toList → Calls P f args' w (CallPost β H w v H')

section
variable {P : Program} {N : Nat} {β : Bij}

theorem wanted_eq {ops : Array Oper} {R : Regs} {a : Act} (h : RR β R a.tmps) {o : Oper} {t : Bool} (ht : wantedS ops.toList R o.guard = some t) : Region.wanted o (yielded ops a.tmps) = t := by
 unfold Region.wanted
 unfold wantedS at ht
 cases hg : o.guard with
 | none => rw [hg] at ht; cases ht; rfl
 | some p =>
   obtain ⟨j, want⟩ := p
   rw [hg] at ht
   simp only at ht ⊢
   unfold yielded
   rw [nth_eq] at ht
   have e1 : ops.toList[j]? = ops[j]? := by simp
   rw [e1] at ht
   cases hd : (ops[j]?).bind (·.dst) with
   | none => rw [hd] at ht; cases ht; rfl
   | some d =>
     rw [hd] at ht
     simp only [Option.bind_some] at ht ⊢
     have hv := h d
     have key : ∀ b, a.tmps[d]? = some (.bool b) ↔ a.tmps.getD d undef = .bool b := by
      intro b
      rw [Array.getD_eq_getD_getElem?]
      cases a.tmps[d]? with
      | none => simp [undef]
      | some v => simp
     unfold yieldS at ht
     split at ht
     · rename_i b hb
       rw [hb] at hv
       have := (key b).2 hv.bool
       rw [this]
       cases ht
       cases b <;> cases want <;> rfl
     · cases ht
     · rename_i h1 h2
       cases ht
       split
       · rename_i b hb
         have hb' := (key b).1 hb
         rw [hb'] at hv
         generalize getR R d = x at hv h1 h2
         cases hv with
         | any v => exact absurd rfl (h2 _)
         | atom h => exact absurd rfl (h1 b)
       · rfl

theorem ops_sound {call : FuncId → List Value → Hp → Ret} (hc : CallOk P call) (ops : Array Oper) (Q : Exit → Act → World → Prop) : ∀ (l : List Oper) (k : Nat), ops.toList.drop k = l → opsOk N l = true → ∀ (R : Regs) (H : Hp) (e : Ex) (R' : Regs) (H' : Hp), opsS P call ops.toList l R H = .ok e R' H' →
  ∀ (β : Bij) (a : Act) (w : World), S N β R H a w → (∀ β' a' w', e = .normal → St β H w β' H' w' → S N β' R' H' a' w' → Q .normal a' w') → wpOps P ops Q (List.range' k l.length) a w := by
 intro l
 induction l with
 | nil =>
   intro k hk hok R H e R' H' hrun β a w hs hq
   cases hrun
   exact hq β a w rfl (St.refl _ _ _) hs
 | cons o l ih =>
   intro k hk hok R H e R' H' hrun β a w hs hq
   have hok' : cond (dstOk N o.dst) (opsOk N l) false = true := hok
   have hd : dstOk N o.dst = true := by
    cases h : dstOk N o.dst with
    | true => rfl
    | false => rw [h] at hok'; cases hok'
   have hol : opsOk N l = true := by rw [hd] at hok'; exact hok'
   have hk' : ops.toList.drop (k + 1) = l := by
    have := congrArg List.tail hk
    rw [List.tail_drop] at this; exact this
   have ho : ops[k]? = some o := by
    have := congrArg List.head? hk
    rw [List.head?_drop] at this
    simpa using this
   have hrun' : wantS (nextS call (fun v H => opsS P call ops.toList l (putR R v o.dst) H) o.pos (opS P R H o.type o.op)) (opsS P call ops.toList l (putR R undefS o.dst) H) (wantedS ops.toList R o.guard) = .ok e R' H' := hrun
   rw [List.length_cons, List.range'_succ]
   simp only [wpOps, ho]
   cases hwt : wantedS ops.toList R o.guard with
   | none => rw [hwt] at hrun'; cases hrun'
   | some t =>
     rw [hwt] at hrun'
     have hw := wanted_eq hs.rr hwt
     cases t with
     | false =>
       rw [hw, if_neg (by simp)]
       exact ih (k + 1) hk' hol _ _ _ _ _ hrun' β _ w (hs.put (St.refl _ _ _) hs.wf hs.hr (VR.undef β) o.dst hd) hq
     | true =>
       rw [hw, if_pos rfl]
       left
       have hdo := op_does (P := P) hs.wf hs.hr hs.rr o (fun i _ hi => hi)
       have hrun2 : nextS call (fun v H => opsS P call ops.toList l (putR R v o.dst) H) o.pos (opS P R H o.type o.op) = .ok e R' H' := hrun'
       unfold Oper.wp
       cases hop : opS P R H o.type o.op with
       | val v H1 =>
         rw [hop] at hdo hrun2
         obtain ⟨β1, v', w1, h1, h2, h3, h4, h5⟩ := hdo
         rw [h1, Oper.upon_value]
         exact ih (k + 1) hk' hol _ _ _ _ _ hrun2 β1 _ w1 (hs.put h2 h5 h4 h3 o.dst hd) (fun β' a' w' he hst => hq β' a' w' he (St.tr hs.hr h4 hs.wf h2 hst))
       | skip H1 =>
         rw [hop] at hdo hrun2
         obtain ⟨w1, h1, h2, h4, h5⟩ := hdo
         rw [h1, Oper.upon_skip]
         exact ih (k + 1) hk' hol _ _ _ _ _ hrun2 β _ w1 (hs.put h2 h5 h4 (VR.undef β) o.dst hd) (fun β' a' w' he hst => hq β' a' w' he (St.tr hs.hr h4 hs.wf h2 hst))
       | enter f args H1 =>
         rw [hop] at hdo hrun2
         obtain ⟨rfl, args', h1, h2⟩ := hdo
         rw [h1, Oper.upon_enter]
         have hrun3 : (match call f args H1 with | .ok v H => opsS P call ops.toList l (putR R v o.dst) H | .bad why l => .bad why (o.pos :: l)) = .ok e R' H' := (nextS_enter ..).symm.trans hrun2
         cases hcl : call f args H1 with
         | bad n l => rw [hcl] at hrun3; cases hrun3
         | ok v H2 =>
           rw [hcl] at hrun3
           refine (hc f args H1 v H2 hcl β w args' hs.wf hs.hr h2).mono ?_
           rintro e1 w1 ⟨β1, v', rfl, h3, h4, h5, h6⟩
           exact ih (k + 1) hk' hol _ _ _ _ _ hrun3 β1 _ w1 (hs.put h4 h5 h6 h3 o.dst hd) (fun β' a' w' he hst => hq β' a' w' he (St.tr hs.hr h6 hs.wf h4 hst))
       | bad n => rw [hop] at hrun2; cases hrun2

/-- how code is left -/
def ExR : Ex → Exit → Prop
 | .normal, .normal => True
 | .exit i, .exit j => i = j
 | .ret, .ret => True
 | _, _ => False
def CodePost [Inhabited Base] (N : Nat) (β : Bij) (H : Hp) (w : World) (e0 : Ex) (R' : Regs) (H' : Hp) (e : Exit) (a' : Act) (w' : World) : Prop :=
 ExR e0 e ∧ ∃ β', St β H w β' H' w' ∧ S N β' R' H' a' w'
def CodeSnd [Inhabited Base] (P : Program) (code : Code → Regs → Hp → Out) : Prop :=
 ∀ N c R H e R' H', code c R H = .ok e R' H' → codeOk N c = true → ∀ β a w, S N β R H a w → c.wp P (CodePost N β H w e R' H') a w
def RegionOk [Inhabited Base] (P : Program) (call : FuncId → List Value → Hp → Ret) : Prop :=
 ∀ N id ops R H e R' H' draw, regionS P call (Array.toList ops) R H draw = .ok e R' H' → opsOk N ops.toList = true → ∀ β a w, S N β R H a w → (Code.region id ops draw).wp P (CodePost N β H w e R' H') a w

theorem codeOk_seq {a b : Code} (h : codeOk N (.seq a b) = true) : codeOk N a = true ∧ codeOk N b = true := by
 have h' : cond (codeOk N a) (codeOk N b) false = true := h
 cases ha : codeOk N a with
 | true => rw [ha] at h'; exact ⟨rfl, h'⟩
 | false => rw [ha] at h'; cases h'
theorem codeOk_cond {c : Operand} {a b : Code} (h : codeOk N (.cond c a b) = true) : codeOk N a = true ∧ codeOk N b = true := by
 have h' : cond (codeOk N a) (codeOk N b) false = true := h
 cases ha : codeOk N a with
 | true => rw [ha] at h'; exact ⟨rfl, h'⟩
 | false => rw [ha] at h'; cases h'
theorem post_trans {N : Nat} {A A1 : Nat → Prop} {β β1 : Bij} {H H1 : Hp} {w w1 : World} (hr : HR A β H w) (hr1 : HR A1 β1 H1 w1) (hw : WF H) (h : St β H w β1 H1 w1) {e0 : Ex} {R' : Regs} {H' : Hp} {e : Exit} {a' : Act} {w' : World} (hp : CodePost N β1 H1 w1 e0 R' H' e a' w') : CodePost N β H w e0 R' H' e a' w' := by
 obtain ⟨h1, β', h2, h3⟩ := hp
 exact ⟨h1, β', St.tr hr hr1 hw h h2, h3⟩
end
end
section
open Go.RowKit
set_option linter.unusedVariables false
set_option linter.unusedSimpArgs false
variable {bs : Inhabited Base}

section
variable {P : Program} {N : Nat} {β : Bij}

theorem region_plain {call : FuncId → List Value → Hp → Ret} (hc : CallOk P call) {id : Nat} {ops : Array Oper} {R : Regs} {H : Hp} {e : Ex} {R' : Regs} {H' : Hp} (hrun : regionS P call ops.toList R H false = .ok e R' H') (hok : opsOk N ops.toList = true) {a : Act} {w : World} (hs : S N β R H a w) :
  (Code.region id ops false).wp P (CodePost N β H w e R' H') a w := by
 have hrun' : opsS P call ops.toList ops.toList R H = .ok e R' H' := hrun
 have he : e = .normal := by
  have : ∀ (l : List Oper) (R : Regs) (H : Hp) (e : Ex) (R' : Regs) (H' : Hp), opsS P call ops.toList l R H = .ok e R' H' → e = .normal := by
   intro l
   induction l with
   | nil => intro R H e R' H' h; cases h; rfl
   | cons o l ih =>
     intro R H e R' H' h
     have h' : wantS (nextS call (fun v H => opsS P call ops.toList l (putR R v o.dst) H) o.pos (opS P R H o.type o.op)) (opsS P call ops.toList l (putR R undefS o.dst) H) (wantedS ops.toList R o.guard) = .ok e R' H' := h
     cases hw : wantedS ops.toList R o.guard with
     | none => rw [hw] at h'; cases h'
     | some t =>
       rw [hw] at h'
       cases t with
       | false => exact ih _ _ _ _ _ h'
       | true =>
         have h2 : nextS call (fun v H => opsS P call ops.toList l (putR R v o.dst) H) o.pos (opS P R H o.type o.op) = .ok e R' H' := h'
         cases hop : opS P R H o.type o.op with
         | val v H1 => rw [hop] at h2; exact ih _ _ _ _ _ h2
         | skip H1 => rw [hop] at h2; exact ih _ _ _ _ _ h2
         | enter f args H1 =>
           rw [hop] at h2
           have h3 : (match call f args H1 with | .ok v H => opsS P call ops.toList l (putR R v o.dst) H | .bad why l => .bad why (o.pos :: l)) = .ok e R' H' := (nextS_enter ..).symm.trans h2
           cases hcl : call f args H1 with
           | bad n l => rw [hcl] at h3; cases h3
           | ok v H2 => rw [hcl] at h3; exact ih _ _ _ _ _ h3
         | bad n => rw [hop] at h2; cases h2
  exact this _ _ _ _ _ _ hrun'
 subst he
 refine wp_region ?_
 have := ops_sound hc ops (CodePost N β H w .normal R' H') ops.toList 0 (by simp) hok R H .normal R' H' hrun' β a w hs (fun β' a' w' _ hst hs' => ⟨trivial, β', hst, hs'⟩)
 rw [List.range_eq_range']
 simpa using this

theorem codeS_succ (X : XF) (n : Nat) (c : Code) (R : Regs) (H : Hp) : codeS P X (n + 1) c R H = runC P (codeS P X n) (enterX X (fun f args H => runF P (codeS P X n) args H P.funcs[f]?)) R H c := rfl

theorem loop_sound {X : XF} (n : Nat) (hb : ∀ m, m < n → CodeSnd P (codeS P X m)) (c : Code) {R : Regs} {H : Hp} {e : Ex} {R' : Regs} {H' : Hp} (hrun : codeS P X n (.loop c) R H = .ok e R' H') (hok : codeOk N c = true) {a : Act} {w : World} (hs : S N β R H a w) :
  (Code.loop c).wp P (CodePost N β H w e R' H') a w := by
 let J : Nat → Act → World → Prop := fun m a1 w1 => m ≤ n ∧ ∃ β1 R1 H1, St β H w β1 H1 w1 ∧ S N β1 R1 H1 a1 w1 ∧ codeS P X m (.loop c) R1 H1 = .ok e R' H'
 have hle : ∀ (a1 : Act) (w1 : World), (∃ m, J m a1 w1) → ∃ m, J m a1 w1 ∧ ∀ m', J m' a1 w1 → m ≤ m' := by
  intro a1 w1 ⟨m0, h0⟩
  induction m0 using Nat.strongRecOn with
  | ind m0 ih =>
    by_cases hx : ∃ m', m' < m0 ∧ J m' a1 w1
    · obtain ⟨m', h1, h2⟩ := hx; exact ih m' h1 h2
    · exact ⟨m0, h0, fun m' h' => by
       rcases Nat.lt_or_ge m' m0 with h | h
       · exact absurd ⟨m', h, h'⟩ hx
       · exact h⟩
 let μ : Act → World → Nat := fun a1 w1 => @dite _ (∃ m, J m a1 w1) (Classical.propDecidable _) (fun h => Classical.choose (hle a1 w1 h)) (fun _ => 0)
 have hμ : ∀ a1 w1, (h : ∃ m, J m a1 w1) → J (μ a1 w1) a1 w1 ∧ ∀ m', J m' a1 w1 → μ a1 w1 ≤ m' := by
  intro a1 w1 h
  have e1 : μ a1 w1 = Classical.choose (hle a1 w1 h) := by
   show @dite _ (∃ m, J m a1 w1) (Classical.propDecidable _) _ _ = _
   rw [dif_pos h]
  rw [e1]
  exact Classical.choose_spec (hle a1 w1 h)
 refine wp_loop (fun a1 w1 => ∃ m, J m a1 w1) μ ⟨n, Nat.le_refl _, β, R, H, St.refl _ _ _, hs, hrun⟩ ?_
 intro a1 w1 hI
 obtain ⟨⟨h1, β1, R1, H1, h2, h3, h4⟩, h5⟩ := hμ a1 w1 hI
 generalize hm : μ a1 w1 = m at h1 h4 h5
 cases m with
 | zero => cases h4
 | succ m =>
   have h6 : seqS (codeS P X m (.loop c)) (codeS P X m c R1 H1) = .ok e R' H' := h4
   cases hbody : codeS P X m c R1 H1 with
   | bad n l => rw [hbody] at h6; cases h6
   | ok e1 R2 H2 =>
     rw [hbody] at h6
     have hw := hb m (by omega) N c R1 H1 e1 R2 H2 hbody hok β1 a1 w1 h3
     refine wp_mono hw ?_
     rintro e2 a2 w2 ⟨he, β2, h7, h8⟩
     cases e1 with
     | normal =>
       cases e2 <;> first | exact he.elim | skip
       have h9 : codeS P X m (.loop c) R2 H2 = .ok e R' H' := h6
       have hJ : J m a2 w2 := ⟨by omega, β2, R2, H2, St.tr hs.hr h3.hr hs.wf h2 h7, h8, h9⟩
       exact ⟨⟨m, hJ⟩, by have := (hμ a2 w2 ⟨m, hJ⟩).2 m hJ; omega⟩
     | exit i =>
       have h9 : Out.ok (.exit i) R2 H2 = .ok e R' H' := h6
       cases h9
       cases e2 <;> first | exact he.elim | skip
       exact ⟨he, β2, St.tr hs.hr h3.hr hs.wf h2 h7, h8⟩
     | ret =>
       have h9 : Out.ok .ret R2 H2 = .ok e R' H' := h6
       cases h9
       cases e2 <;> first | exact he.elim | skip
       exact ⟨he, β2, St.tr hs.hr h3.hr hs.wf h2 h7, h8⟩

/-! ### results -/
theorem regsOf_RR {l m : List Value} (h : VL β l m) : ∀ (k : Nat) (R : Regs) (a : Array Value), RR β R a → Wide R → k + l.length ≤ a.size → k + l.length ≤ 1000 → RR β (regsOf l k R) (a.toList.take k ++ (m ++ a.toList.drop (k + m.length))).toArray ∧ Wide (regsOf l k R) := by
 induction l generalizing m with
 | nil =>
   intro k R a hr hw hs hn
   obtain rfl : m = [] := List.eq_nil_of_length_eq_zero (by have := h.1; simpa using this.symm)
   refine ⟨?_, hw⟩
   show RR β R _
   simpa using hr
 | cons x l ih =>
   intro k R a hr hw hs hn
   obtain ⟨y, m, rfl, hx, hl⟩ := h.uncons
   simp only [List.length_cons] at hs hn
   have h1 := hr.set k (by omega) (by omega) hw hx
   have h2 : Wide (R.set x (Nat.succ k)) := fun j hj => by rw [Tr.inb_set]; exact hw j hj
   obtain ⟨h3, h4⟩ := ih hl (k + 1) (R.set x (Nat.succ k)) (a.setIfInBounds k y) h1 h2 (by simp; omega) (by omega)
   refine ⟨?_, h4⟩
   show RR β (regsOf l (k + 1) (R.set x (Nat.succ k))) _
   have e : (a.toList.take k ++ (y :: m ++ a.toList.drop (k + (y :: m).length))).toArray = ((a.setIfInBounds k y).toList.take (k + 1) ++ (m ++ (a.setIfInBounds k y).toList.drop (k + 1 + m.length))).toArray := by
    congr 1
    have hk : k < a.toList.length := by rw [Array.length_toList]; omega
    simp only [Array.toList_setIfInBounds, List.length_cons]
    rw [List.take_succ_eq_append_getElem (by simpa using hk), List.take_set_of_le (Nat.le_refl _), List.getElem_set_self, List.drop_set_of_lt (by omega)]
    simp only [List.append_assoc, List.singleton_append, List.cons_append]
    rw [show k + (m.length + 1) = k + 1 + m.length by omega]
    rfl
   rw [e]; exact h3
/-- a result -/
def resV (tmps : Array Value) : ResultVar → Sem Value
 | .tmp t => pure (tmps.getD t undef)
 | .cell a t => do loadVar t (← asAddr (tmps.getD a undef))
theorem res_run {A : Nat → Prop} {H : Hp} {w : World} (hr : HR A β H w) (hA : ∀ b, memN H.ban b = false → A b) {R : Regs} {tmps : Array Value} (h : RR β R tmps) : ∀ (l : List ResultVar) (vs : List Value), ressS P R H l = some vs →
  ∃ us, VL β vs us ∧ (l.mapM (resV tmps) : Sem (List Value)).run P w = .ok us w
 | [], vs, e => by cases e; exact ⟨[], VL.nil β, by simp⟩
 | x :: l, vs, e => by
   have e' : (match resS P R H x, ressS P R H l with | some v, some l => some (v :: l) | _, _ => none) = some vs := e
   split at e'
   · rename_i v r hv hl
     cases e'
     obtain ⟨us, h1, h2⟩ := res_run hr hA h l r hl
     have hx : ∃ u, VR β v u ∧ (resV tmps x).run P w = .ok u w := by
      cases x with
      | tmp t => cases hv; exact ⟨_, h t, rfl⟩
      | cell a t =>
        have hv' : (match loadS P H t (getR R a) with | .val v _ => some v | _ => none) = some v := hv
        have hld := load_run (P := P) hr (t := t) (h a) (fun b q _ _ hb => hA q.grp hb)
        cases hlo : loadS P H t (getR R a) with
        | val v0 H0 =>
          rw [hlo] at hv' hld
          cases hv'
          obtain ⟨_, u, hu, hrun⟩ := hld
          refine ⟨u, hu, ?_⟩
          have hp : ∃ ad, tmps.getD a undef = .pointer (some ad) := by
           have hva := h a
           unfold loadS at hlo
           split at hlo
           · rename_i b off hb
             rw [hb] at hva
             obtain ⟨k, hk, hy⟩ := hva.ptr_inv (sp := none)
             exact ⟨_, hy⟩
           · cases hlo
          obtain ⟨ad, hp⟩ := hp
          rw [hp] at hrun
          simp only [Instr.loadAt, Instr.sureAddr, Sem.run_bind, Sem.run_pure, Result.andThen_ok] at hrun
          simp only [resV, hp, asAddr, Sem.run_bind, Sem.run_pure, Result.andThen_ok]
          exact hrun
        | skip H0 => rw [hlo] at hv'; cases hv'
        | enter f g H0 => rw [hlo] at hv'; cases hv'
        | bad n => rw [hlo] at hv'; cases hv'
     obtain ⟨u, h3, h4⟩ := hx
     refine ⟨u :: us, VL.cons h3 h1, ?_⟩
     rw [List.mapM_cons]
     simp only [Sem.run_bind, h4, Result.andThen_ok, h2, Sem.run_pure]
   · cases e'
theorem results_run {A : Nat → Prop} {H : Hp} {w : World} (hr : HR A β H w) (hA : ∀ b, memN H.ban b = false → A b) {R : Regs} {tmps : Array Value} (h : RR β R tmps) (fn : Func) {v : Value} {H' : Hp} (e : retL H (ressS P R H fn.results.toList) = .ok v H') :
  H' = H ∧ ∃ u, VR β v u ∧ (results fn tmps).run P w = .ok u w := by
 cases hl : ressS P R H fn.results.toList with
 | none => rw [hl] at e; cases e
 | some vs =>
   rw [hl] at e
   obtain ⟨us, h1, h2⟩ := res_run (P := P) hr hA h _ vs hl
   have hrun : (results fn tmps).run P w = .ok (if h : us.toArray.size = 1 then us.toArray[0] else .tuple us.toArray) w := by
    have e0 : results fn tmps = (do let vs ← fn.results.mapM (resV tmps); pure (if h : vs.size = 1 then vs[0] else .tuple vs)) := rfl
    rw [e0, Array.mapM_eq_mapM_toList]
    simp only [Sem.run_bind, Sem.run_map, h2, Result.andThen_ok, Sem.run_pure]
   rw [hrun]
   unfold retL at e
   split at e
   · rename_i v0 hv
     cases hv
     cases e
     obtain ⟨u, r, rfl, h3, h4⟩ := h1.uncons
     obtain rfl : r = [] := by have := h4.1; simpa using this.symm
     exact ⟨rfl, u, h3, by simp⟩
   · rename_i vs0 hne hv
     cases hv
     cases e
     have hlen : us.length ≠ 1 := by
      rw [← h1.1]
      intro h5
      obtain ⟨v0, rfl⟩ := List.length_eq_one_iff.1 h5
      exact hne v0 rfl
     refine ⟨rfl, .tuple us.toArray, .tuple (by simpa using h1.1) (by simpa using h1.2), ?_⟩
     rw [dif_neg (by simpa using hlen)]
   · cases e
end
end
section
open Go.RowKit
set_option linter.unusedVariables false
set_option linter.unusedSimpArgs false
variable {bs : Inhabited Base}

section
variable {P : Program}

theorem call_sound {code : Code → Regs → Hp → Out} (hcode : CodeSnd P code) : CallOk P (fun f args H => runF P code args H P.funcs[f]?) := by
 intro f args H v H' hrun β w args' hw hr hl
 have hrun' : runF P code args H P.funcs[f]? = .ok v H' := hrun
 unfold runF at hrun'
 split at hrun'
 · rename_i fn hfn
   split at hrun'
   · rename_i c hbody
     cases hcc : (Nat.ble fn.ntmps 1000 && (Nat.ble (lenL args) fn.ntmps && codeOk fn.ntmps c)) with
     | false => rw [hcc] at hrun'; cases hrun'
     | true =>
       rw [hcc] at hrun'
       obtain ⟨h1, h2⟩ := and_split hcc
       obtain ⟨h2, h3⟩ := and_split h2
       have h1 := of_ble h1
       have h2 := of_ble h2
       rw [lenL_eq] at h2
       have hrun2 : endS' P fn (code c (regsOf args 0 (Tr.blank _ regDepth)) H) = .ok v H' := hrun'
       have hlen : args'.size = args.length := by rw [hl.1]; simp
       have hblank : RR β (Tr.blank Value regDepth) (Array.replicate fn.ntmps undef) := by
        intro t
        have e1 : getR (Tr.blank Value regDepth) t = undefS := by unfold getR; rw [Tr.get_blank]
        have e2 : (Array.replicate fn.ntmps undef).getD t undef = undef := by
         rw [Array.getD_eq_getD_getElem?, Array.getElem?_replicate]; split <;> rfl
        rw [e1, e2]; exact VR.undef β
       have hwide : Wide (Tr.blank Value regDepth) := fun t ht => Tr.inb_blank 10 (t + 1) (by omega) (by omega)
       obtain ⟨h4, h5⟩ := regsOf_RR hl 0 _ _ hblank hwide (by simp; omega) (by omega)
       have etmps : ((Array.replicate fn.ntmps undef).toList.take 0 ++ (args'.toList ++ (Array.replicate fn.ntmps undef).toList.drop (0 + args'.toList.length))).toArray = args' ++ Array.replicate (fn.ntmps - args'.size) undef := by
        apply Array.toList_inj.1
        simp [List.drop_replicate]
       rw [etmps] at h4
       have hs : S fn.ntmps β (regsOf args 0 (Tr.blank _ regDepth)) H { tmps := args' ++ Array.replicate (fn.ntmps - args'.size) undef, defers := [] } w :=
        ⟨hw, hr, h4, h5, h1, by simp; omega, by simp; omega, rfl⟩
       refine calls_of_wp hfn hbody ?_
       cases hres : code c (regsOf args 0 (Tr.blank _ regDepth)) H with
       | bad n l => rw [hres] at hrun2; cases hrun2
       | ok e R' H1 =>
         rw [hres] at hrun2
         refine wp_mono (hcode fn.ntmps c _ _ _ _ _ hres h3 β _ w hs) ?_
         rintro e2 a2 w2 ⟨he, β', hst, hs'⟩
         have fin : retL H1 (ressS P R' H1 fn.results.toList) = .ok v H' → a2.defers = [] ∧ ∃ u, (results fn a2.tmps).run P w2 = .ok u w2 ∧ CallPost β H w v H' (.returned u) w2 := by
          intro hret
          obtain ⟨rfl, u, hu, hrunr⟩ := results_run (P := P) hs'.hr (fun b hb => hb) hs'.rr fn hret
          exact ⟨hs'.defers, u, hrunr, β', u, rfl, hu, hst, hs'.wf, by rw [← hst.ban]; exact hs'.hr⟩
         cases e with
         | normal => cases e2 <;> first | exact he.elim | exact fin hrun2
         | ret => cases e2 <;> first | exact he.elim | exact fin hrun2
         | exit i => cases hrun2
   · cases hrun'
 · cases hrun'

/-- what is told of functions that are not run holds of them -/
def XOk [Inhabited Base] (P : Program) (X : XF) : Prop :=
 ∀ f k, X f = some k → ∀ args H v H', k args H = .ok v H' → ∀ β w (args' : Array Value), WF H → HR (Ab H.ban) β H w → VL β args args'.toList → Calls P f args' w (CallPost β H w v H')
theorem XOk.none [Inhabited Base] : XOk P XF.none := fun f k h => by cases h
theorem enterX_ok {X : XF} (hX : XOk P X) {g : FuncId → List Value → Hp → Ret} (hg : CallOk P g) : CallOk P (enterX X g) := by
 intro f args H v H' h
 unfold enterX at h
 cases hx : X f with
 | none => rw [hx] at h; exact hg f args H v H' h
 | some k => rw [hx] at h; exact hX f k hx args H v H' h

theorem code_step {X : XF} (hX : XOk P X) (hreg : ∀ call, CallOk P call → RegionOk P call) (n : Nat) (hall : ∀ m, m ≤ n → CodeSnd P (codeS P X m)) : CodeSnd P (codeS P X (n + 1)) := by
 intro N c R H e R' H' hrun hok β a w hs
 have hc := hall n (Nat.le_refl n)
 have hcall := enterX_ok hX (call_sound hc)
 cases c with
 | skip => cases hrun; exact wp_skip ⟨trivial, β, St.refl _ _ _, hs⟩
 | region id ops draw => exact hreg _ hcall N id ops R H e R' H' draw hrun hok β a w hs
 | seq x y =>
   obtain ⟨h1, h2⟩ := codeOk_seq hok
   have hrun' : seqS (codeS P X n y) (codeS P X n x R H) = .ok e R' H' := hrun
   cases hx : codeS P X n x R H with
   | bad k l => rw [hx] at hrun'; cases hrun'
   | ok e1 R1 H1 =>
     rw [hx] at hrun'
     refine wp_seq (wp_mono (hc N x R H e1 R1 H1 hx h1 β a w hs) ?_)
     rintro e2 a2 w2 ⟨he, β2, h3, h4⟩
     cases e1 with
     | normal =>
       cases e2 <;> first | exact he.elim | skip
       exact wp_mono (hc N y R1 H1 e R' H' hrun' h2 β2 a2 w2 h4) (fun e3 a3 w3 hp => post_trans hs.hr h4.hr hs.wf h3 hp)
     | exit i =>
       have h9 : Out.ok (.exit i) R1 H1 = .ok e R' H' := hrun'
       cases h9
       cases e2 <;> first | exact he.elim | skip
       exact ⟨he, β2, h3, h4⟩
     | ret =>
       have h9 : Out.ok .ret R1 H1 = .ok e R' H' := hrun'
       cases h9
       cases e2 <;> first | exact he.elim | skip
       exact ⟨he, β2, h3, h4⟩
 | cond o x y =>
   obtain ⟨h1, h2⟩ := codeOk_cond hok
   have hrun' : condS (codeS P X n x R H) (codeS P X n y R H) (evS R o) = .ok e R' H' := hrun
   have ho := hs.rr.eval o
   generalize evS R o = v at hrun' ho
   unfold condS at hrun'
   split at hrun'
   · rename_i t
     refine wp_cond ho.bool ?_
     cases t with
     | true => exact hc N x R H e R' H' hrun' h1 β a w hs
     | false => exact hc N y R H e R' H' hrun' h2 β a w hs
   · cases hrun'
 | block id x =>
   have hrun' : blockS id (codeS P X n x R H) = .ok e R' H' := hrun
   cases hx : codeS P X n x R H with
   | bad k l => rw [hx] at hrun'; cases hrun'
   | ok e1 R1 H1 =>
     rw [hx] at hrun'
     refine wp_block (wp_mono (hc N x R H e1 R1 H1 hx hok β a w hs) ?_)
     rintro e2 a2 w2 ⟨he, β2, h3, h4⟩
     cases e1 with
     | normal =>
       have h9 : Out.ok .normal R1 H1 = .ok e R' H' := hrun'
       cases h9
       cases e2 <;> first | exact he.elim | skip
       exact ⟨trivial, β2, h3, h4⟩
     | ret =>
       have h9 : Out.ok .ret R1 H1 = .ok e R' H' := hrun'
       cases h9
       cases e2 <;> first | exact he.elim | skip
       exact ⟨trivial, β2, h3, h4⟩
     | exit i =>
       cases e2 <;> first | exact he.elim | skip
       rename_i j
       have hij : i = j := he
       subst hij
       have h9 : (cond (Nat.beq i id) (.ok .normal R1 H1) (.ok (.exit i) R1 H1) : Out) = .ok e R' H' := hrun'
       show if i = id then _ else _
       by_cases hid : i = id
       · rw [beq_t hid] at h9
         rw [if_pos hid]
         cases h9
         exact ⟨trivial, β2, h3, h4⟩
       · rw [beq_f hid] at h9
         rw [if_neg hid]
         cases h9
         exact ⟨rfl, β2, h3, h4⟩
 | loop x => exact loop_sound (n + 1) (fun m hm => hall m (by omega)) x hrun hok hs
 | exit id => cases hrun; exact wp_exit ⟨rfl, β, St.refl _ _ _, hs⟩
 | ret => cases hrun; exact wp_ret ⟨trivial, β, St.refl _ _ _, hs⟩
 | label l => cases hrun; exact wp_label ⟨trivial, β, St.refl _ _ _, hs⟩
 | scope x =>
   refine wp_scope_straight (wp_mono (hc N x R H e R' H' hrun hok β a w hs) ?_)
   rintro e2 a2 w2 ⟨he, h3⟩
   cases e2 <;> first | (cases e <;> exact he.elim) | exact ⟨he, h3⟩
 | rangeFunc f p x y => cases hrun
 | goto l => cases hrun
 | refuse why => cases hrun
theorem code_sound {X : XF} (hX : XOk P X) (hreg : ∀ call, CallOk P call → RegionOk P call) : ∀ n, CodeSnd P (codeS P X n) := by
 intro n
 induction n using Nat.strongRecOn with
 | ind n ih =>
   cases n with
   | zero => intro N c R H e R' H' hrun; cases hrun
   | succ n => exact code_step hX hreg n (fun m hm => ih m (by omega))

theorem none_WF : WF Hp.none := by
 refine ⟨Nat.zero_le 1, ⟨Nat.le_refl 1, by decide⟩, fun k h1 h2 => ⟨Tr.inb_blank 17 k h1 (by omega), Tr.inb_blank 17 k h1 (by omega)⟩, fun b _ => Tr.get_blank 17 b, fun b q h => ?_, fun g p h => ?_, fun b b' q q' h => ?_, fun b h1 h2 => ?_⟩
 · rw [show Hp.none.tr = Tr.blank Blk 17 from rfl, Tr.get_blank] at h; cases h
 · rw [show Hp.none.grp = Tr.blank _ 17 from rfl, Tr.get_blank] at h; cases h
 · rw [show Hp.none.tr = Tr.blank Blk 17 from rfl, Tr.get_blank] at h; cases h
 · have : b < 1 := h2
   omega
/-- a call whose run is told: without arguments that lead to memory -/
theorem run_from {X : XF} (hX : XOk P X) (hreg : ∀ call, CallOk P call → RegionOk P call) (n : Nat) (f : FuncId) (args : List Value) {v : Value} {H H' : Hp} (h : callX P X n f args H = .ok v H') {β : Bij} {w : World} {args' : Array Value}
  (hw : WF H) (hr : HR (Ab H.ban) β H w) (hl : VL β args args'.toList) : Calls P f args' w (CallPost β H w v H') :=
 call_sound (code_sound hX hreg n) f args H v H' h β w args' hw hr hl
theorem run_sound (hB : ∀ b, baseAt b = none) (hR : ∀ r, baseRow r = none) {X : XF} (hX : XOk P X) (hreg : ∀ call, CallOk P call → RegionOk P call) (n : Nat) (f : FuncId) (args : List Value) (hf : ∀ x ∈ args, flatV x = true) (v : Value) (H' : Hp) (hv : flatV v = true) (h : callX P X n f args Hp.none = .ok v H') (w : World) :
  Calls P f args.toArray w fun e w' => e = .returned v ∧ Below w.heap.size w w' := by
 have hc := call_sound (code_sound hX hreg n)
 have hr : HR (Ab Hp.none.ban) (fun _ => none) Hp.none w := ⟨fun b k h => (by cases h), fun b k q h => (by cases h), fun b b' k k' q q' h => (by cases h), fun b k h => (by rw [hB] at h; cases h), fun r o e => (by rw [hR] at e; cases e), fun b k h => (by cases h)⟩
 have hl : VL (fun _ => none) args args.toArray.toList := by
  refine ⟨by simp, fun i x y hx hy => ?_⟩
  have : x = y := by
   rw [show args.toArray.toList = args by simp] at hy
   rw [hx] at hy; exact Option.some.inj hy
  subst this
  exact .flat (hf x (List.mem_of_getElem? hx))
 refine (hc f args Hp.none v H' h (fun _ => none) w args.toArray none_WF hr hl).mono ?_
 rintro e w' ⟨β', v', rfl, h1, h2, h3, h4⟩
 refine ⟨by rw [h1.of_flat hv], h2.os, h2.tape, h2.output, h2.size, fun k hk => h2.block k hk (fun b k' q hb => by cases hb)⟩
/-- a function that looks at no memory, by what it is known to tell -/
theorem pure_post {f : FuncId} {args : List Value} (hf : ∀ x ∈ args, flatV x = true) {v : Value} (hv : ∀ β : Bij, VR β v v) {H : Hp} {β : Bij} {w : World} {args' : Array Value} (h : Calls P f args.toArray w fun e w' => e = .returned v ∧ Below w.heap.size w w') (hw : WF H) (hr : HR (Ab H.ban) β H w) (hl : VL β args args'.toList) : Calls P f args' w (CallPost β H w v H) := by
 have e : args' = args.toArray := by
  apply Array.toList_inj.1
  apply List.ext_getElem?
  intro i
  rcases Nat.lt_or_ge i args.length with h1 | h1
  · have hx : args[i]? = some (args[i]) := List.getElem?_eq_getElem h1
    obtain ⟨y, hy, hv⟩ := hl.get hx
    rw [hy, hv.of_flat (hf _ (List.getElem_mem h1))]
    simp [h1]
  · have h2 := hl.1
    rw [List.getElem?_eq_none (by omega)]
    simp [h1]
 rw [e]
 refine h.mono ?_
 rintro e w' ⟨rfl, hb⟩
 have hr' : HR (Ab H.ban) β H w' := hr.world hb.size (fun b k hk => hb.block _ (hr.dom b k hk).2.1) (fun r o e => hb.block _ (lt_of_row (hr.fix r o e)))
 exact ⟨β, v, rfl, hv β, ⟨hb.os, hb.tape, hb.output, hb.size, Ext.refl _, Nat.le_refl _, rfl, rfl, fun _ h => h, fun r hr _ => hb.block r hr, fun _ _ h => .inl h, fun _ q h => ⟨q, h, rfl, rfl⟩, fun _ _ h _ _ => ⟨h, rfl⟩, fun _ h => .inl h, fun b h1 h2 => by omega⟩, hw, hr'⟩
end
end
section
open Go.RowKit
set_option linter.unusedVariables false
set_option linter.unusedSimpArgs false
variable {bs : Inhabited Base}

theorem bit_eq (m i : Nat) : bitS m i = m.testBit i := by
 rw [Nat.testBit_eq_decide_div_mod_eq]
 unfold bitS
 by_cases h : m / 2 ^ i % 2 = 1
 · rw [beq_t (show Nat.mod (Nat.div m (Nat.pow 2 i)) 2 = 1 from h)]; simp [h]
 · rw [beq_f (show ¬ Nat.mod (Nat.div m (Nat.pow 2 i)) 2 = 1 from h)]; simp [h]
noncomputable def mk (acc : List Nat) (k : Nat) : Nat := match nth acc k with | some m => m | none => 0
theorem edges_bit (acc : List Nat) (i : Nat) : ∀ es : List Edge, bitS (edgesS acc es) i = true → ∃ e, e ∈ es ∧ Region.binds .any e = true ∧ (e.on = i ∨ bitS (mk acc e.on) i = true)
 | [], h => by
   rw [bit_eq] at h
   have : (0 : Nat).testBit i = true := h
   simp at this
 | e :: r, h => by
   have h' : bitS (cond (Region.binds .any e) (Nat.lor (Nat.lor (Nat.pow 2 e.on) (mk acc e.on)) (edgesS acc r)) (edgesS acc r)) i = true := h
   cases hb : Region.binds .any e with
   | false =>
     rw [hb] at h'
     obtain ⟨e', h1, h2⟩ := edges_bit acc i r h'
     exact ⟨e', List.mem_cons_of_mem _ h1, h2⟩
   | true =>
     rw [hb] at h'
     have h2 : ((2 ^ e.on ||| mk acc e.on) ||| edgesS acc r).testBit i = true := by rw [← bit_eq]; exact h'
     rw [Nat.testBit_or, Nat.testBit_or, Bool.or_eq_true, Bool.or_eq_true] at h2
     rcases h2 with (h2 | h2) | h2
     · rw [Nat.testBit_two_pow] at h2
       exact ⟨e, List.mem_cons_self .., hb, .inl (by simpa using h2)⟩
     · exact ⟨e, List.mem_cons_self .., hb, .inr (by rw [bit_eq]; exact h2)⟩
     · obtain ⟨e', h3, h4⟩ := edges_bit acc i r (by rw [bit_eq]; exact h2)
       exact ⟨e', List.mem_cons_of_mem _ h3, h4⟩
theorem ahead_spec : ∀ (l : List Oper) (acc : List Nat), ∃ tail, aheadS l acc = acc ++ tail ∧ tail.length = l.length ∧ ∀ (i : Nat) (o : Oper), l[i]? = some o → (acc ++ tail)[acc.length + i]? = some (edgesS ((acc ++ tail).take (acc.length + i)) o.after.toList)
 | [], acc => ⟨[], by simp [aheadS], rfl, fun i o h => by simp at h⟩
 | o :: r, acc => by
   obtain ⟨tail, h1, h2, h3⟩ := ahead_spec r (acc ++ [edgesS acc o.after.toList])
   refine ⟨edgesS acc o.after.toList :: tail, ?_, by simp [h2], fun i x hx => ?_⟩
   · show aheadS r (catL acc [edgesS acc o.after.toList]) = _
     rw [catL_eq, h1]; simp
   · cases i with
     | zero =>
       simp at hx; subst hx
       simp
     | succ i =>
       have := h3 i x (by simpa using hx)
       simp only [List.length_append, List.length_singleton, List.append_assoc, List.singleton_append] at this
       rw [show acc.length + (i + 1) = acc.length + 1 + i by omega]
       exact this
theorem mask_spec {L : List Oper} {j : Nat} {o : Oper} (h : L[j]? = some o) {i : Nat} (hb : bitS (maskS L j) i = true) : ∃ e, e ∈ o.after.toList ∧ Region.binds .any e = true ∧ (e.on = i ∨ (e.on < j ∧ bitS (maskS L e.on) i = true)) := by
 obtain ⟨tail, h1, h2, h3⟩ := ahead_spec L []
 simp only [List.nil_append, List.length_nil, Nat.zero_add] at h1 h3
 have hm := h3 j o h
 have e1 : maskS L j = edgesS (tail.take j) o.after.toList := by
  unfold maskS
  rw [h1, nth_eq, hm]
 rw [e1] at hb
 obtain ⟨e, h4, h5, h6⟩ := edges_bit _ i _ hb
 refine ⟨e, h4, h5, ?_⟩
 rcases h6 with h6 | h6
 · exact .inl h6
 · right
   unfold mk at h6
   rw [nth_eq, List.getElem?_take] at h6
   split at h6
   · rename_i m hm'
     split at hm'
     · rename_i hlt
       refine ⟨hlt, ?_⟩
       unfold maskS
       rw [h1, nth_eq, hm']; exact h6
     · cases hm'
   · rw [bit_eq] at h6; simp at h6
theorem allI_spec {α : Type} (f : Nat → α → Bool) : ∀ (l : List α) (k : Nat), allI f l k = true → ∀ (i : Nat) (x : α), l[i]? = some x → f (k + i) x = true
 | [], k, h, i, x, hx => by simp at hx
 | a :: r, k, h, i, x, hx => by
   have h' : cond (f k a) (allI f r (Nat.succ k)) false = true := h
   cases hf : f k a with
   | false => rw [hf] at h'; cases h'
   | true =>
     rw [hf] at h'
     cases i with
     | zero => simp at hx; subst hx; simpa using hf
     | succ i =>
       have := allI_spec f r (k + 1) h' i x (by simpa using hx)
       rw [show k + (i + 1) = k + 1 + i by omega]; exact this
/-- two operations that name what the other one writes -/
def Meets (L : List Oper) (o o' : Oper) : Prop := (∃ d, o'.dst = some d ∧ d ∈ namesOf L o) ∨ (∃ d, o.dst = some d ∧ d ∈ namesOf L o')
structure DrawOk (L : List Oper) : Prop where
 small : ∀ (j : Nat) (o : Oper), L[j]? = some o → ∀ t, t ∈ namesOf L o → t < 1000
 back : ∀ (j : Nat) (o : Oper), L[j]? = some o → ∀ e, e ∈ o.after.toList → Region.binds .any e = true → e.on < j
 meet : ∀ (i j : Nat) (o o' : Oper), L[j]? = some o → L[i]? = some o' → i < j → Meets L o o' → bitS (maskS L j) i = true
theorem drawOk_spec {L : List Oper} (h : drawOk L = true) : DrawOk L := by
 have h1 := allI_spec _ L 0 h
 refine ⟨fun j o hj t ht => ?_, fun j o hj e he hb => ?_, fun i j o o' hj hi hij hm => ?_⟩
 · have h2 := h1 j o hj
   simp only [Nat.zero_add, Bool.and_eq_true] at h2
   have h3 := h2.1.1.1
   rw [List.all_eq_true] at h3
   exact Nat.le_of_ble_eq_true (h3 t ht)
 · have h2 := h1 j o hj
   simp only [Nat.zero_add, Bool.and_eq_true] at h2
   have h3 := h2.1.1.2
   rw [List.all_eq_true] at h3
   have h4 := h3 e he
   rw [hb] at h4
   have h5 : Nat.blt e.on j = true := by simpa using h4
   exact Nat.le_of_ble_eq_true h5
 · have h2 := h1 j o hj
   simp only [Nat.zero_add, Bool.and_eq_true] at h2
   have h3 := allI_spec _ L 0 h2.2 i o' hi
   simp only [Nat.zero_add, Bool.or_eq_true] at h3
   rcases h3 with h3 | h3 | h3
   · exact absurd (of_ble h3) (by omega)
   · exfalso
     rw [Bool.and_eq_true] at h3
     rcases hm with ⟨d, h4, h5⟩ | ⟨d, h4, h5⟩
     · have := h3.1; rw [h4] at this; simp at this; rw [(memN_eq _ _).2 h5] at this; cases this
     · have := h3.2; rw [h4] at this; simp at this; rw [(memN_eq _ _).2 h5] at this; cases this
   · exact h3
theorem mask_lt {L : List Oper} (hd : DrawOk L) : ∀ (j : Nat) (o : Oper), L[j]? = some o → ∀ i, bitS (maskS L j) i = true → i < j := by
 intro j
 induction j using Nat.strongRecOn with
 | ind j ih =>
   intro o ho i hb
   obtain ⟨e, h1, h2, h3⟩ := mask_spec ho hb
   have h4 := hd.back j o ho e h1 h2
   rcases h3 with h3 | ⟨h3, h5⟩
   · omega
   · have hlt : e.on < L.length := by have := (List.getElem?_eq_some_iff.1 ho).1; omega
     have := ih e.on h4 _ (List.getElem?_eq_getElem hlt) i h5
     omega
/-- what has been done: all that stands ahead of it, too -/
def Closed (L : List Oper) (D : Nat → Prop) : Prop := ∀ (j : Nat) (o : Oper), L[j]? = some o → D j → ∀ e, e ∈ o.after.toList → Region.binds .any e = true → D e.on
def Ready (L : List Oper) (D : Nat → Prop) (j : Nat) : Prop := ∀ o, L[j]? = some o → ∀ e, e ∈ o.after.toList → Region.binds .any e = true → D e.on
theorem mask_in {L : List Oper} (hd : DrawOk L) {D : Nat → Prop} (hc : Closed L D) : ∀ (j : Nat) (o : Oper), L[j]? = some o → Ready L D j → ∀ i, bitS (maskS L j) i = true → D i := by
 intro j
 induction j using Nat.strongRecOn with
 | ind j ih =>
   intro o ho hr i hb
   obtain ⟨e, h1, h2, h3⟩ := mask_spec ho hb
   have h4 := hr o ho e h1 h2
   rcases h3 with h3 | ⟨h3, h5⟩
   · rw [← h3]; exact h4
   · have hlt : e.on < L.length := by have := (List.getElem?_eq_some_iff.1 ho).1; omega
     have hoe := List.getElem?_eq_getElem hlt
     refine ih e.on h3 _ hoe (fun o' ho' e' he' hb' => hc e.on o' ho' h4 e' he' hb') i h5
end
section
open Go.RowKit
set_option linter.unusedVariables false
set_option linter.unusedSimpArgs false
variable {bs : Inhabited Base}

theorem mapL_congr {α β : Type} {f g : α → β} : ∀ (l : List α), (∀ x, x ∈ l → f x = g x) → mapL f l = mapL g l
 | [], h => rfl
 | x :: r, h => by
   show f x :: mapL f r = g x :: mapL g r
   rw [h x (List.mem_cons_self ..), mapL_congr r (fun y hy => h y (List.mem_cons_of_mem _ hy))]
theorem opt_congr {R R' : Regs} {o : Option Operand} (h : ∀ x, o = some x → evS R x = evS R' x) : o.map (evS R) = o.map (evS R') := by
 cases o with
 | none => rfl
 | some x => simp [h x rfl]
section
variable {P : Program} {H : Hp}
theorem opS_congr {R R' : Regs} {ty : TypeId} (o : Op) (h : ∀ x, x ∈ o.operands.toList → evS R x = evS R' x) : opS P R H ty o = opS P R' H ty o := by
 cases o with
 | move x => simp only [opS]; rw [h x (by simp [Op.operands])]
 | assign x => simp only [opS]; rw [h x (by simp [Op.operands])]
 | pick c a b => simp only [opS]; rw [h c (by simp [Op.operands]), h a (by simp [Op.operands]), h b (by simp [Op.operands])]
 | alloc e => rfl
 | box e x => simp only [opS]; rw [h x (by simp [Op.operands])]
 | build t ps =>
   simp only [opS, partsS]
   rw [mapL_congr (f := fun p => (p.1, evS R p.2)) (g := fun p => (p.1, evS R' p.2)) ps.toList (fun p hp => by
    show (p.1, evS R p.2) = (p.1, evS R' p.2)
    rw [h p.2 (by simp only [Op.operands]; simp; exact ⟨p.1, by simpa using hp⟩)])]
 | buildSlice t n ps =>
   simp only [opS, partsS]
   rw [mapL_congr (f := fun p => (p.1, evS R p.2)) (g := fun p => (p.1, evS R' p.2)) ps.toList (fun p hp => by
    show (p.1, evS R p.2) = (p.1, evS R' p.2)
    rw [h p.2 (by simp only [Op.operands]; simp; exact ⟨p.1, by simpa using hp⟩)])]
 | load t a => simp only [opS]; rw [h a (by simp [Op.operands])]
 | store t a v => simp only [opS]; rw [h a (by simp [Op.operands]), h v (by simp [Op.operands])]
 | nilCheck x => simp only [opS]; rw [h x (by simp [Op.operands])]
 | fieldAddr t x f => simp only [opS]; rw [h x (by simp [Op.operands])]
 | field t x f => simp only [opS]; rw [h x (by simp [Op.operands])]
 | indexAddr t x ix => simp only [opS]; rw [h x (by simp [Op.operands]), h ix (by simp [Op.operands])]
 | slice t x lo hi mx =>
   cases mx with
   | some m => rfl
   | none =>
     simp only [opS, sliceO]
     rw [h x (by simp [Op.operands]), opt_congr (o := lo) (fun y hy => h y (by subst hy; simp [Op.operands])), opt_congr (o := hi) (fun y hy => h y (by subst hy; simp [Op.operands]))]
 | makeSlice t l c => simp only [opS]; rw [h l (by simp [Op.operands]), h c (by simp [Op.operands])]
 | extract x k => simp only [opS]; rw [h x (by simp [Op.operands])]
 | binOp op t x y t2 => simp only [opS]; rw [h x (by simp [Op.operands]), h y (by simp [Op.operands])]
 | unOp op t x => simp only [opS]; rw [h x (by simp [Op.operands])]
 | convert s d x => simp only [opS]; rw [h x (by simp [Op.operands])]
 | index t x ix => simp only [opS]; rw [h x (by simp [Op.operands]), h ix (by simp [Op.operands])]
 | makeMap t hint => rfl
 | lookup t x ix ok => simp only [opS]; rw [h x (by simp [Op.operands]), h ix (by simp [Op.operands])]
 | mapUpdate t m k v => simp only [opS]; rw [h m (by simp [Op.operands]), h k (by simp [Op.operands]), h v (by simp [Op.operands])]
 | call c =>
   have ha := mapL_congr (f := evS R) (g := evS R') c.args.toList (fun x hx => h x (by
    simp only [Op.operands, Call.operands]
    simp; exact .inr (by simpa using hx)))
   simp only [opS]
   unfold callC
   cases hc : c.callee with
   | builtin b => simp only; rw [ha]
   | value f => simp only; rw [ha, h f (by simp [Op.operands, Call.operands, hc])]
   | invoke r m => rfl
 | _ => rfl
theorem rddOf_congr {R R' : Regs} {ban : List Nat} (o : Op) (h : ∀ x, x ∈ o.operands.toList → evS R x = evS R' x) : rddOf H R ban o = rddOf H R' ban o := by
 cases o with
 | load t a => simp only [rddOf]; rw [h a (by simp [Op.operands])]
 | store t a v => simp only [rddOf]; rw [h a (by simp [Op.operands])]
 | _ => rfl
end

/-! ### slots of some names alone -/
noncomputable def unkT : Regs := Nat.rec (motive := fun _ => Regs) .nil (fun _ t => .node (some unknownS) t t) 10
noncomputable def selR (R : Regs) (ts : List Tmp) : Regs := ts.foldr (fun t T => T.set (getR R t) (Nat.succ t)) unkT
theorem unk_get : ∀ (d k : Nat), (Nat.rec (motive := fun _ => Regs) .nil (fun _ t => .node (some unknownS) t t) d : Regs).get k = some unknownS ∨ (Nat.rec (motive := fun _ => Regs) .nil (fun _ t => .node (some unknownS) t t) d : Regs).get k = none
 | 0, k => .inr (Tr.get_nil k)
 | d + 1, k => by
   show (Tr.node (some unknownS) _ _).get k = _ ∨ (Tr.node (some unknownS) _ _).get k = _
   rw [Tr.get_node]
   split
   · exact .inl rfl
   · split
     · exact unk_get d _
     · exact unk_get d _
theorem unk_in : ∀ (d k : Nat), 1 ≤ k → k < 2 ^ d → (Nat.rec (motive := fun _ => Regs) .nil (fun _ t => .node (some unknownS) t t) d : Regs).get k = some unknownS ∧ (Nat.rec (motive := fun _ => Regs) .nil (fun _ t => .node (some unknownS) t t) d : Regs).inb k = true
 | 0, k, h1, h2 => by simp at h2; omega
 | d + 1, k, h1, h2 => by
   show (Tr.node (some unknownS) _ _).get k = _ ∧ (Tr.node (some unknownS) _ _).inb k = true
   rw [Tr.get_node, Tr.inb_node]
   rw [Nat.pow_succ] at h2
   by_cases e : k = 1
   · subst e; simp
   · have h3 := unk_in d (k / 2) (by omega) (by omega)
     rw [if_neg e]
     simp [h3.1, h3.2]
theorem sel_wide (R : Regs) : ∀ ts, Wide (selR R ts)
 | [] => fun t ht => (unk_in 10 (t + 1) (by omega) (by omega)).2
 | t :: r => fun j hj => by
   show ((selR R r).set (getR R t) (Nat.succ t)).inb (j + 1) = true
   rw [Tr.inb_set]; exact sel_wide R r j hj
theorem sel_in (R : Regs) : ∀ (ts : List Tmp) (t : Nat), t ∈ ts → t < 1000 → getR (selR R ts) t = getR R t
 | [], t, h, _ => by cases h
 | x :: r, t, h, ht => by
   show getR ((selR R r).set (getR R x) (Nat.succ x)) t = _
   by_cases e : t = x
   · subst e
     rw [getR_set _ _ _ _ (sel_wide R r t ht), if_pos rfl]
   · have hr : t ∈ r := by
      rcases List.mem_cons.1 h with h | h
      · exact absurd h e
      · exact h
     have : getR ((selR R r).set (getR R x) (Nat.succ x)) t = getR (selR R r) t := by
      unfold getR
      rw [Tr.get_set_other _ _ _ _ (by intro h; exact e (Nat.succ.inj h))]
     rw [this]; exact sel_in R r t hr ht
theorem sel_out (R : Regs) : ∀ (ts : List Tmp) (t : Nat), (t ∈ ts ∧ getR (selR R ts) t = getR R t) ∨ getR (selR R ts) t = unknownS ∨ (getR (selR R ts) t = undefS ∧ 1000 ≤ t)
 | [], t => by
   right
   by_cases h : t < 1000
   · left
     have := (unk_in 10 (t + 1) (by omega) (by omega)).1
     show Option.rec (motive := fun _ => Value) undefS (fun v => v) (unkT.get (Nat.succ t)) = unknownS
     unfold unkT
     rw [this]
   · rcases unk_get 10 (t + 1) with h1 | h1
     · left; show Option.rec (motive := fun _ => Value) undefS (fun v => v) (unkT.get (Nat.succ t)) = unknownS; unfold unkT; rw [h1]
     · right; refine ⟨?_, by omega⟩; show Option.rec (motive := fun _ => Value) undefS (fun v => v) (unkT.get (Nat.succ t)) = undefS; unfold unkT; rw [h1]
 | x :: r, t => by
   show (t ∈ x :: r ∧ getR ((selR R r).set (getR R x) (Nat.succ x)) t = _) ∨ getR ((selR R r).set (getR R x) (Nat.succ x)) t = _ ∨ (getR ((selR R r).set (getR R x) (Nat.succ x)) t = _ ∧ _)
   by_cases e : t = x
   · subst e
     by_cases hb : (selR R r).inb (t + 1) = true
     · left; exact ⟨List.mem_cons_self .., by rw [getR_set _ _ _ _ hb, if_pos rfl]⟩
     · have h0 : ¬ t < 1000 := fun h => hb (sel_wide R r t h)
       have : (selR R r).set (getR R t) (Nat.succ t) = selR R r := by
        exact Tr.set_out _ _ _ (by simpa using hb)
       rw [this]
       rcases sel_out R r t with ⟨h1, h2⟩ | h1 | h1
       · exact .inl ⟨List.mem_cons_of_mem _ h1, h2⟩
       · exact .inr (.inl h1)
       · exact .inr (.inr h1)
   · have : getR ((selR R r).set (getR R x) (Nat.succ x)) t = getR (selR R r) t := by
      unfold getR
      rw [Tr.get_set_other _ _ _ _ (by intro h; exact e (Nat.succ.inj h))]
     rw [this]
     rcases sel_out R r t with ⟨h1, h2⟩ | h1 | h1
     · exact .inl ⟨List.mem_cons_of_mem _ h1, h2⟩
     · exact .inr (.inl h1)
     · exact .inr (.inr h1)
theorem sel_RR {β : Bij} {R : Regs} {tmps : Array Value} (hs : tmps.size ≤ 1000) (ts : List Tmp) (h : ∀ t, t ∈ ts → VR β (getR R t) (tmps.getD t undef)) : RR β (selR R ts) tmps := by
 intro t
 rcases sel_out R ts t with ⟨h1, h2⟩ | h1 | ⟨h1, h2⟩
 · rw [h2]; exact h t h1
 · rw [h1]; exact .any _
 · rw [h1]
   have : tmps.getD t undef = undef := by rw [Array.getD_eq_getD_getElem?, Array.getElem?_eq_none (by omega)]; rfl
   rw [this]; exact VR.undef β
theorem sel_eval {R : Regs} {L : List Oper} {o : Oper} (hs : ∀ t, t ∈ namesOf L o → t < 1000) (x : Operand) (hx : x ∈ o.op.operands.toList) : evS (selR R (namesOf L o)) x = evS R x := by
 cases x with
 | tmp t =>
   have ht : t ∈ namesOf L o := by
    unfold namesOf
    refine List.mem_append_right _ (List.mem_append_left _ ?_)
    rw [List.mem_filterMap]
    exact ⟨.tmp t, hx, rfl⟩
   exact sel_in R _ t ht (hs t ht)
 | const v => rfl
 | global g => rfl
 | func f => rfl

/-! ### values that lead to older blocks alone -/
def VB (n : Nat) (x : Value) : Prop := ∃ β y, (∀ (b : Nat) (k : Bk), β b = some k → b < n) ∧ VR β x y
theorem VR.cut {β : Bij} {n : Nat} {x y : Value} (h : VR β x y) (hb : VB n x) : VR (fun b => if b < n then β b else none) x y := by
 obtain ⟨β0, y0, h0, h1⟩ := hb
 induction h generalizing y0 with
 | any v => exact .any v
 | atom h => exact .atom h
 | ptr h =>
   obtain ⟨k, hk, _⟩ := h1.ptr_inv (sp := none)
   exact .ptr (by simp only [if_pos (h0 _ _ hk)]; exact h)
 | slice h hn hc hz =>
   rename_i b off n' c k
   rcases h1.slice_inv with ⟨e, _⟩ | ⟨e1, a', c', e, _⟩ | ⟨b', off', k', c', e, hk, _⟩
   · cases e
   · cases e
     cases h1 with
     | atom h => cases h
     | slice hk _ _ _ => exact .slice (by simp only [if_pos (h0 _ _ hk)]; exact h) hn hc hz
     | void a c2 =>
       exact .void _ _
   · cases e
     exact .slice (by simp only [if_pos (h0 _ _ hk)]; exact h) hn hc hz
 | map h =>
   obtain ⟨k, hk, _⟩ := h1.map_inv
   exact .map (by simp only [if_pos (h0 _ _ hk)]; exact h)
 | void a c => exact .void a c
 | agg hl h ih =>
   obtain ⟨zs, rfl, hz⟩ := h1.agg_inv
   refine .agg hl (fun i x y hx hy => ?_)
   obtain ⟨u, hu, hv⟩ := hz.get hx
   exact ih i x y hx hy u hv
 | tuple hl h ih =>
   obtain ⟨zs, rfl, hz⟩ := h1.tuple_inv
   refine .tuple hl (fun i x y hx hy => ?_)
   obtain ⟨u, hu, hv⟩ := hz.get hx
   exact ih i x y hx hy u hv
 | func hl h hl' h' ih ih' =>
   obtain ⟨zs, zs', rfl, hz, hz'⟩ := h1.func_inv
   refine .func hl (fun i x y hx hy => ?_) hl' (fun i x y hx hy => ?_)
   · obtain ⟨u, hu, hv⟩ := hz.get hx
     exact ih i x y hx hy u hv
   · obtain ⟨u, hu, hv⟩ := hz'.get hx
     exact ih' i x y hx hy u hv
end
section
open Go.RowKit
set_option linter.unusedVariables false
set_option linter.unusedSimpArgs false
variable {bs : Inhabited Base}

/-- what an operation came to -/
def Ran (call : FuncId → List Value → Hp → Ret) (n : Nx) (v : Value) (H' : Hp) : Prop :=
 n = .val v H' ∨ (n = .skip H' ∧ v = undefS) ∨ ∃ f args H2, n = .enter f args H2 ∧ call f args H2 = .ok v H'
noncomputable def banAt (L : List Oper) (R0 : Regs) (H : Hp) (j : Nat) : List Nat := bansS L H R0 j H.ban L 0
noncomputable def rdAt (L : List Oper) (R0 R : Regs) (H : Hp) (j : Nat) (o : Oper) : Rdd := rddOf H R (banAt L R0 H j) o.op
/-- a run in text order -/
structure Trace (P : Program) (call : FuncId → List Value → Hp → Ret) (L : List Oper) (R0 : Regs) (Rs : Nat → Regs) (Hs : Nat → Hp) (V : Nat → Value) (H1 : Nat → Hp) (ex : Nat → Prop) (rd : Nat → Rdd) : Prop where
 skip : ∀ (j : Nat) (o : Oper), L[j]? = some o → ¬ ex j → wantedS L (Rs j) o.guard = some false ∧ V j = undefS ∧ Rs (j + 1) = putR (Rs j) undefS o.dst ∧ Hs (j + 1) = Hs j
 exec : ∀ (j : Nat) (o : Oper), L[j]? = some o → ex j → wantedS L (Rs j) o.guard = some true ∧ rd j = rdAt L R0 (Rs j) (Hs j) j o ∧ Ran call (opS P (Rs j) (enterD (banAt L R0 (Hs j) j) (Hs j)) o.type o.op) (V j) (H1 j) ∧
  Rs (j + 1) = putR (Rs j) (V j) o.dst ∧ Hs (j + 1) = leaveD (Hs j) (H1 j)
 apart : ∀ (i j : Nat), i < j → j < L.length → ex i → ex j → ordB L i j = true ∨ (noneIn (H1 i).wrote (rd j) = true ∧ noneIn (H1 j).wrote (rd i) = true)

theorem apart_mem {L : List Oper} {j : Nat} {r : Rdd} {wr : List Nat} : ∀ {sn : List Seen}, apartS L j r wr sn = true → ∀ s, s ∈ sn → ordB L s.at_ j = true ∨ (noneIn s.wr r = true ∧ noneIn wr s.rd = true)
 | [], _, s, hs => by cases hs
 | x :: sn, h, s, hs => by
   have h' : cond (ordB L x.at_ j || (noneIn x.wr r && noneIn wr x.rd)) (apartS L j r wr sn) false = true := h
   cases hx : (ordB L x.at_ j || (noneIn x.wr r && noneIn wr x.rd)) with
   | false => rw [hx] at h'; cases h'
   | true =>
     rw [hx] at h'
     rcases List.mem_cons.1 hs with rfl | hs
     · rcases Bool.or_eq_true_iff.1 hx with h1 | h1
       · exact .inl h1
       · exact .inr (and_split h1)
     · exact apart_mem h' s hs

section
variable {P : Program} {call : FuncId → List Value → Hp → Ret} {L : List Oper} {R0 : Regs}
theorem trace_of : ∀ (l : List Oper) (k : Nat) (sn : List Seen) (R : Regs) (H : Hp) (e : Ex) (R' : Regs) (H' : Hp), L.drop k = l → drawS P call L R0 l k sn R H = .ok e R' H' →
  e = .normal ∧ ∃ (Rs : Nat → Regs) (Hs : Nat → Hp) (V : Nat → Value) (H1 : Nat → Hp) (ex : Nat → Prop) (rd : Nat → Rdd), Rs k = R ∧ Hs k = H ∧ Rs (k + l.length) = R' ∧ Hs (k + l.length) = H' ∧
   (∀ (j : Nat) (o : Oper), k ≤ j → L[j]? = some o → ¬ ex j → wantedS L (Rs j) o.guard = some false ∧ V j = undefS ∧ Rs (j + 1) = putR (Rs j) undefS o.dst ∧ Hs (j + 1) = Hs j) ∧
   (∀ (j : Nat) (o : Oper), k ≤ j → L[j]? = some o → ex j → wantedS L (Rs j) o.guard = some true ∧ rd j = rdAt L R0 (Rs j) (Hs j) j o ∧ Ran call (opS P (Rs j) (enterD (banAt L R0 (Hs j) j) (Hs j)) o.type o.op) (V j) (H1 j) ∧
     Rs (j + 1) = putR (Rs j) (V j) o.dst ∧ Hs (j + 1) = leaveD (Hs j) (H1 j)) ∧
   (∀ (i j : Nat), k ≤ i → i < j → j < k + l.length → ex i → ex j → ordB L i j = true ∨ (noneIn (H1 i).wrote (rd j) = true ∧ noneIn (H1 j).wrote (rd i) = true)) ∧
   (∀ (j : Nat), k ≤ j → j < k + l.length → ex j → ∀ s, s ∈ sn → ordB L s.at_ j = true ∨ (noneIn s.wr (rd j) = true ∧ noneIn (H1 j).wrote s.rd = true)) := by
 intro l
 induction l with
 | nil =>
   intro k sn R H e R' H' hk hrun
   cases hrun
   have hlen : L.length ≤ k := by
    have := congrArg List.length hk
    simp at this; omega
   refine ⟨rfl, fun _ => R, fun _ => H, fun _ => undefS, fun _ => H, fun _ => False, fun _ => .none, rfl, rfl, rfl, rfl, ?_, ?_, ?_, ?_⟩
   · intro j o hj ho; have := (List.getElem?_eq_some_iff.1 ho).1; omega
   · intro j o hj ho; have := (List.getElem?_eq_some_iff.1 ho).1; omega
   · intro i j _ _ h; simp at h; omega
   · intro j hj h; simp at h; omega
 | cons o l ih =>
   intro k sn R H e R' H' hk hrun
   have hk' : L.drop (k + 1) = l := by
    have := congrArg List.tail hk
    rw [List.tail_drop] at this; exact this
   have ho : L[k]? = some o := by
    have := congrArg List.head? hk
    rw [List.head?_drop] at this
    simpa using this
   have hrun' : wantS (nextS call (fun v H' => drawNext L (rddOf H R (bansS L H R0 k H.ban L 0) o.op) o k sn H (fun sn v H => drawS P call L R0 l (Nat.succ k) sn (putR R v o.dst) H) v H') o.pos (opS P R (enterD (bansS L H R0 k H.ban L 0) H) o.type o.op))
     (drawS P call L R0 l (Nat.succ k) sn (putR R undefS o.dst) H) (wantedS L R o.guard) = .ok e R' H' := hrun
   cases hw : wantedS L R o.guard with
   | none => rw [hw] at hrun'; cases hrun'
   | some t =>
     rw [hw] at hrun'
     cases t with
     | false =>
       obtain ⟨he, Rs, Hs, V, H1, ex, rd, a1, a2, a3, a4, a5, a6, a7, a8⟩ := ih (k + 1) sn _ H e R' H' hk' hrun'
       refine ⟨he, fun i => if i = k then R else Rs i, fun i => if i = k then H else Hs i, fun i => if i = k then undefS else V i, H1, fun i => i ≠ k ∧ ex i, rd, by simp, by simp, ?_, ?_, ?_, ?_, ?_, ?_⟩
       · simp only [List.length_cons]; rw [if_neg (by omega)]; rw [show k + (l.length + 1) = k + 1 + l.length by omega]; exact a3
       · simp only [List.length_cons]; rw [if_neg (by omega)]; rw [show k + (l.length + 1) = k + 1 + l.length by omega]; exact a4
       · intro j x hj hx hex
         by_cases e1 : j = k
         · subst e1
           rw [ho] at hx; cases hx
           simp only [if_pos, if_neg (show ¬ j + 1 = j by omega)]
           exact ⟨hw, trivial, a1, a2⟩
         · simp only [if_neg e1, if_neg (show ¬ j + 1 = k by omega)]
           exact a5 j x (by omega) hx (fun h => hex ⟨e1, h⟩)
       · intro j x hj hx hex
         simp only [if_neg hex.1, if_neg (show ¬ j + 1 = k by omega)]
         exact a6 j x (by have := hex.1; omega) hx hex.2
       · intro i j hi hij hj hei hej
         simp only [List.length_cons] at hj
         exact a7 i j (by have := hei.1; omega) hij (by omega) hei.2 hej.2
       · intro j hj hjl hej s hs
         simp only [List.length_cons] at hjl
         exact a8 j (by have := hej.1; omega) (by omega) hej.2 s hs
     | true =>
       have hgo : ∃ v H2, Ran call (opS P R (enterD (bansS L H R0 k H.ban L 0) H) o.type o.op) v H2 ∧ drawNext L (rddOf H R (bansS L H R0 k H.ban L 0) o.op) o k sn H (fun sn v H => drawS P call L R0 l (Nat.succ k) sn (putR R v o.dst) H) v H2 = .ok e R' H' := by
        have h2 : nextS call (fun v H' => drawNext L (rddOf H R (bansS L H R0 k H.ban L 0) o.op) o k sn H (fun sn v H => drawS P call L R0 l (Nat.succ k) sn (putR R v o.dst) H) v H') o.pos (opS P R (enterD (bansS L H R0 k H.ban L 0) H) o.type o.op) = .ok e R' H' := hrun'
        cases hop : opS P R (enterD (bansS L H R0 k H.ban L 0) H) o.type o.op with
        | val v H2 => rw [hop] at h2; exact ⟨v, H2, .inl rfl, h2⟩
        | skip H2 => rw [hop] at h2; exact ⟨undefS, H2, .inr (.inl ⟨rfl, rfl⟩), h2⟩
        | enter f args H3 =>
          rw [hop] at h2
          have h3 : (match call f args H3 with | .ok v H' => drawNext L (rddOf H R (bansS L H R0 k H.ban L 0) o.op) o k sn H (fun sn v H => drawS P call L R0 l (Nat.succ k) sn (putR R v o.dst) H) v H' | .bad why l => .bad why (o.pos :: l)) = .ok e R' H' := (nextS_enter ..).symm.trans h2
          cases hcl : call f args H3 with
          | bad n l => rw [hcl] at h3; cases h3
          | ok v H2 => rw [hcl] at h3; exact ⟨v, H2, .inr (.inr ⟨f, args, H3, rfl, hcl⟩), h3⟩
        | bad n => rw [hop] at h2; cases h2
       obtain ⟨v, H2, hran, hdn⟩ := hgo
       unfold drawNext at hdn
       obtain ⟨hap, hdn⟩ := (cond_split hdn).resolve_right (fun h => by cases h.2)
       obtain ⟨he, Rs, Hs, V, H1, ex, rd, a1, a2, a3, a4, a5, a6, a7, a8⟩ := ih (k + 1) _ _ _ e R' H' hk' hdn
       refine ⟨he, fun i => if i = k then R else Rs i, fun i => if i = k then H else Hs i, fun i => if i = k then v else V i, fun i => if i = k then H2 else H1 i, fun i => i = k ∨ ex i ∧ i ≠ k, fun i => if i = k then rddOf H R (bansS L H R0 k H.ban L 0) o.op else rd i, by simp, by simp, ?_, ?_, ?_, ?_, ?_, ?_⟩
       · simp only [List.length_cons]; rw [if_neg (by omega)]; rw [show k + (l.length + 1) = k + 1 + l.length by omega]; exact a3
       · simp only [List.length_cons]; rw [if_neg (by omega)]; rw [show k + (l.length + 1) = k + 1 + l.length by omega]; exact a4
       · intro j x hj hx hex
         have e1 : j ≠ k := fun e1 => hex (.inl e1)
         simp only [if_neg e1, if_neg (show ¬ j + 1 = k by omega)]
         exact a5 j x (by omega) hx (fun h => hex (.inr ⟨h, e1⟩))
       · intro j x hj hx hex
         by_cases e1 : j = k
         · subst e1
           rw [ho] at hx; cases hx
           simp only [if_pos, if_neg (show ¬ j + 1 = j by omega)]
           exact ⟨hw, rfl, hran, a1, a2⟩
         · simp only [if_neg e1, if_neg (show ¬ j + 1 = k by omega)]
           exact a6 j x (by omega) hx (hex.elim (fun h => absurd h e1) (fun h => h.1))
       · intro i j hi hij hj hei hej
         simp only [List.length_cons] at hj
         have ej : j ≠ k := by omega
         have hej' := hej.elim (fun h => absurd h ej) (fun h => h.1)
         by_cases ei : i = k
         · subst ei
           simp only [if_pos, if_neg ej]
           exact a8 j (by omega) (by omega) hej' ⟨i, rddOf H R (bansS L H R0 i H.ban L 0) o.op, H2.wrote⟩ (List.mem_cons_self ..)
         · simp only [if_neg ei, if_neg ej]
           exact a7 i j (by omega) hij (by omega) (hei.elim (fun h => absurd h ei) (fun h => h.1)) hej'
       · intro j hj hjl hej s hs
         simp only [List.length_cons] at hjl
         by_cases ej : j = k
         · subst ej
           simp only [if_pos]
           exact apart_mem hap s hs
         · simp only [if_neg ej]
           exact a8 j (by omega) (by omega) (hej.elim (fun h => absurd h ej) (fun h => h.1)) s (List.mem_cons_of_mem _ hs)
end
end
section
open Go.RowKit
set_option linter.unusedVariables false
set_option linter.unusedSimpArgs false
variable {bs : Inhabited Base}

theorem mem_joinW (old g : Nat) : ∀ (l m : List Nat), g ∈ joinW old l m ↔ g ∈ m ∨ (g ∈ l ∧ g < old)
 | [], m => by
   show g ∈ m ↔ _
   simp
 | x :: r, m => by
   have ih := mem_joinW old g r m
   show g ∈ cond (Nat.blt x old && !(memN (joinW old r m) x)) (x :: joinW old r m) (joinW old r m) ↔ _
   cases h : (Nat.blt x old && !(memN (joinW old r m) x)) with
   | true =>
     obtain ⟨h1, h2⟩ := and_split h
     have h1 : x < old := Nat.le_of_ble_eq_true h1
     show g ∈ x :: joinW old r m ↔ _
     rw [List.mem_cons, ih, List.mem_cons]
     constructor
     · rintro (rfl | h | h)
       · exact .inr ⟨.inl rfl, h1⟩
       · exact .inl h
       · exact .inr ⟨.inr h.1, h.2⟩
     · rintro (h | ⟨rfl | h, h'⟩)
       · exact .inr (.inl h)
       · exact .inl rfl
       · exact .inr (.inr ⟨h, h'⟩)
   | false =>
     show g ∈ joinW old r m ↔ _
     rw [ih, List.mem_cons]
     constructor
     · rintro (h | h)
       · exact .inl h
       · exact .inr ⟨.inr h.1, h.2⟩
     · rintro (h' | ⟨rfl | h', h''⟩)
       · exact .inl h'
       · have h3 : Nat.blt g old = true := Nat.ble_eq_true_of_le h''
         rw [h3] at h
         exact ih.1 ((memN_eq _ _).1 (by simpa using h))
       · exact .inr ⟨h', h''⟩
theorem bans_spec {L : List Oper} {H : Hp} {R0 : Regs} {j : Nat} {base : List Nat} : ∀ (l : List Oper) (i : Nat), (∀ g, g ∈ base → g ∈ bansS L H R0 j base l i) ∧ ∀ g, g ∈ bansS L H R0 j base l i → g ∈ base ∨ ∃ o : Oper, storeAt H R0 o.op = some g
 | [], i => ⟨fun g h => h, fun g h => .inl h⟩
 | o :: r, i => by
   obtain ⟨ih1, ih2⟩ := bans_spec r (Nat.succ i) (L := L) (H := H) (R0 := R0) (j := j) (base := base)
   have e : bansS L H R0 j base (o :: r) i = (match storeAt H R0 o.op with
    | some b => cond (Nat.beq i j || ordB L i j) (bansS L H R0 j base r (Nat.succ i)) (b :: bansS L H R0 j base r (Nat.succ i))
    | none => bansS L H R0 j base r (Nat.succ i)) := rfl
   rw [e]
   cases hs : storeAt H R0 o.op with
   | none => exact ⟨ih1, ih2⟩
   | some b =>
     simp only
     cases hc : (Nat.beq i j || ordB L i j) with
     | true => exact ⟨ih1, ih2⟩
     | false =>
       refine ⟨fun g h => List.mem_cons_of_mem _ (ih1 g h), fun g h => ?_⟩
       rcases List.mem_cons.1 h with rfl | h
       · exact .inr ⟨o, hs⟩
       · exact ih2 g h
theorem storeAt_lt {H : Hp} (hw : WF H) {R : Regs} {o : Op} {g : Nat} (h : storeAt H R o = some g) : g < H.next := by
 unfold storeAt at h
 split at h
 · unfold grpAt at h
   split at h
   · split at h
     · rename_i q hq
       cases h
       have h1 := hw.grp _ q hq
       have h2 := hw.pos hq
       omega
     · cases h
   · cases h
 · cases h
theorem memN_false {l : List Nat} {i : Nat} : memN l i = false ↔ i ∉ l := by
 rw [← memN_eq]
 cases memN l i <;> simp
theorem ban_sub {L : List Oper} {R0 : Regs} {H : Hp} {j g : Nat} (h : memN (banAt L R0 H j) g = false) : memN H.ban g = false := by
 rw [memN_false] at h ⊢
 exact fun h' => h ((bans_spec L 0).1 g h')
theorem ban_new {L : List Oper} {R0 : Regs} {H : Hp} (hw : WF H) {j g : Nat} (h : memN H.ban g = false) (h' : memN (banAt L R0 H j) g = true) : g < H.next := by
 rw [memN_false] at h
 rw [memN_eq] at h'
 rcases (bans_spec L 0).2 g h' with h1 | ⟨o, h1⟩
 · exact absurd h1 h
 · exact storeAt_lt hw h1
theorem enter_WF {H : Hp} (hw : WF H) (ban : List Nat) : WF (enterD ban H) := ⟨Nat.le_refl _, hw.nx, hw.inb, hw.none, hw.grp, hw.new, hw.mono, hw.all⟩
theorem leave_WF {H H1 : Hp} (hw : WF H) (hw1 : WF H1) (h : H.next ≤ H1.next) : WF (leaveD H H1) := ⟨Nat.le_trans hw.od h, hw1.nx, hw1.inb, hw1.none, hw1.grp, hw1.new, hw1.mono, hw1.all⟩
theorem enter_HR {A A' : Nat → Prop} {β : Bij} {H : Hp} {w : World} (hr : HR A β H w) (ban : List Nat) (hA : ∀ g, A' g → A g) : HR A' β (enterD ban H) w :=
 ⟨hr.dom, fun b k q hb hq hl ha => hr.row b k q hb hq hl (hA _ ha), hr.share, hr.base, hr.fix, hr.apart⟩

section
variable {L : List Oper} {R0 : Regs} {β β1 : Bij} {H H1 : Hp} {w w1 : World} {j : Nat}
theorem leave_ok (hw : WF H) (hr : HR (Ab H.ban) β H w) (hst : St β (enterD (banAt L R0 H j) H) w β1 H1 w1) (hr1 : HR (Ab (banAt L R0 H j)) β1 H1 w1) (hw1 : WF H1) :
  HR (Ab H.ban) β1 (leaveD H H1) w1 ∧ St β H w β1 (leaveD H H1) w1 := by
 have hwr : ∀ g, g ∈ H1.wrote → memN (banAt L R0 H j) g = false := fun g hg => by
  rcases hst.wdom g hg with h | ⟨_, h, _⟩
  · cases h
  · exact h
 have hlt : ∀ b q, H.tr.get b = some q → q.grp < H.next := fun b q hq => by
  have h1 := hw.grp b q hq
  have h2 := hw.pos hq
  omega
 refine ⟨⟨hr1.dom, fun b k q hb hq hl ha => ?_, hr1.share, hr1.base, hr1.fix, hr1.apart⟩, ⟨hst.os, hst.tape, hst.output, hst.size, hst.ext, hst.next, rfl, rfl, fun g hg => (mem_joinW _ _ _ _).2 (.inl hg), ?_, ?_, hst.same, ?_, ?_, hst.full⟩⟩
 · have hq : H1.tr.get b = some q := hq
   have hl : H1.since q ≤ b := hl
   cases hba : memN (banAt L R0 H j) q.grp with
   | false => exact hr1.row b k q hb hq hl hba
   | true =>
     rcases hst.new b k hb with h0 | ⟨h1, h2, q', h3, h4⟩
     · obtain ⟨_, hks, q0, hq0, _⟩ := hr.dom b k h0
       obtain ⟨q2, e1, _, e3⟩ := hst.same b q0 hq0
       rw [hq] at e1; cases e1
       have hnw : q0.grp ∉ H1.wrote := fun h => by
        have := hwr _ h
        rw [← e3, hba] at this; cases this
       obtain ⟨e4, e5⟩ := hst.keep b q0 hq0 (hlt b q0 hq0) hnw
       rw [hq] at e4; cases e4
       have hl' : H.since q ≤ b := by rw [e5] at hl; exact hl
       refine (hr.row b k q h0 hq0 hl' ha).mono hst.ext (hst.block _ hks (fun b' k' q' hb' hq' e => ?_))
       have := hr.share b' b k' k q' q hb' h0 hq' hq0 e
       rw [this]
       exact ⟨hlt b q hq0, hnw⟩
     · rw [hq] at h3; cases h3
       rcases h4 with ⟨h4, _⟩ | ⟨b0, k0, q0, h5, h6, h7, h8, _⟩
       · have h9 := ban_new (L := L) (R0 := R0) (j := j) hw ha hba
         have : H.next ≤ q.grp := h4
         omega
       · exfalso
         refine h8 ⟨hlt b0 q0 h6, fun h => ?_⟩
         have := hwr _ h
         rw [h7, hba] at this; cases this
 · intro r hrs hk
   refine hst.block r hrs (fun b k q hb hq e => ⟨hlt b q hq, fun h => ?_⟩)
   obtain ⟨h1, h2⟩ := hk b k q hb hq e
   exact h2 ((mem_joinW _ _ _ _).2 (.inr ⟨h, h1⟩))
 · intro b k hb
   rcases hst.new b k hb with h0 | ⟨h1, h2, q', h3, h4⟩
   · exact .inl h0
   · refine .inr ⟨h1, h2, q', h3, ?_⟩
     rcases h4 with h4 | ⟨b0, k0, q0, h5, h6, h7, h8, h9⟩
     · exact .inl h4
     · refine .inr ⟨b0, k0, q0, h5, h6, h7, fun hh => ?_, h9⟩
       have hin : q0.grp ∈ H1.wrote := by
        by_cases h : q0.grp ∈ H1.wrote
        · exact h
        · exact absurd ⟨hlt b0 q0 h6, h⟩ h8
       exact hh.2 ((mem_joinW _ _ _ _).2 (.inr ⟨hin, hh.1⟩))
 · intro b q hq h1 h2
   exact hst.keep b q hq (hlt b q hq) (fun h => h2 ((mem_joinW _ _ _ _).2 (.inr ⟨h, h1⟩)))
 · intro g hg
   rcases (mem_joinW _ _ _ _).1 hg with h | ⟨h, h'⟩
   · exact .inl h
   · rcases hst.wdom g h with h3 | ⟨_, h4, h5⟩
     · cases h3
     · exact .inr ⟨h', ban_sub h4, h5⟩
end

section
variable {P : Program} {call : FuncId → List Value → Hp → Ret} {A : Nat → Prop} {β : Bij} {H : Hp} {w : World}
theorem v_ne {s : Sem Value} {w' : World} {f : FuncId} {l : Array Value} : (do pure (Next.value (← s)) : Sem Next).run P w ≠ .ok (.enter f l) w' := by
 intro h
 rw [Sem.run_bind] at h
 cases hs : s.run P w with
 | ok v w2 => rw [hs] at h; simp at h
 | halt x w2 => rw [hs] at h; simp at h
theorem u_ne {s : Sem Unit} {w' : World} {f : FuncId} {l : Array Value} : (do s; pure Next.skip : Sem Next).run P w ≠ .ok (.enter f l) w' := by
 intro h
 rw [Sem.run_bind] at h
 cases hs : s.run P w with
 | ok v w2 => rw [hs] at h; simp at h
 | halt x w2 => rw [hs] at h; simp at h
theorem enter_but {R : Regs} {a : Act} (o : Oper) {f : FuncId} {args : List Value} {H2 : Hp} (e : opS P R H o.type o.op = .enter f args H2) {l : Array Value} {w' : World} (h1 : (execOp a.eval o).run P w = .ok (.enter f l) w') (ban : List Nat) : rddOf H R ban o.op = .but ban := by
 cases ho : o.op with
 | call c =>
   rw [ho] at e
   have e' : callC P R H o.type c = .enter f args H2 := e
   unfold callC at e'
   have hr : rddOf H R ban (.call c) = cond (pureO (.call c)) .none (.but ban) := rfl
   have hp : pureO (.call c) = (match c.callee with | .builtin b => pureB b | _ => false) := rfl
   rw [hr, hp]
   cases hc : c.callee with
   | value g => rfl
   | invoke r m => rfl
   | builtin b =>
     exfalso
     rw [hc] at e'
     simp only [execOp, ho, resolve, hc, pure_bind, invoke] at h1
     cases b <;> first | (simp only [builtinS] at e'; cases e'; done) | exact v_ne h1
 | store t x v => simp only [execOp, ho] at h1; exact absurd h1 u_ne
 | move x => simp [execOp, ho] at h1
 | assign x => simp [execOp, ho] at h1
 | pick c x y =>
   simp only [execOp, ho, Sem.run_bind] at h1
   cases hs : (asBool (a.eval c)).run P w with
   | ok v w2 => rw [hs] at h1; simp at h1
   | halt x w2 => rw [hs] at h1; simp at h1
 | nilCheck x =>
   rw [ho] at e
   have e' : nilS H (evS R x) = .enter f args H2 := e
   unfold nilS at e'
   split at e' <;> cases e'
 | alloc t => simp only [execOp, ho] at h1; exact absurd h1 v_ne
 | makeMap t x => simp only [execOp, ho] at h1; exact absurd h1 v_ne
 | lookup t x y c => simp only [execOp, ho] at h1; exact absurd h1 v_ne
 | mapUpdate t x y z => simp only [execOp, ho] at h1; exact absurd h1 u_ne
 | box t x => simp only [execOp, ho] at h1; exact absurd h1 v_ne
 | build t ps => simp only [execOp, ho] at h1; exact absurd h1 v_ne
 | buildSlice t n ps => simp only [execOp, ho] at h1; exact absurd h1 v_ne
 | load t x => simp only [execOp, ho] at h1; exact absurd h1 v_ne
 | binOp op t x y t2 => simp only [execOp, ho] at h1; exact absurd h1 v_ne
 | unOp op t x => simp only [execOp, ho] at h1; exact absurd h1 v_ne
 | convert s d x => simp only [execOp, ho] at h1; exact absurd h1 v_ne
 | makeSlice t l c => simp only [execOp, ho] at h1; exact absurd h1 v_ne
 | slice t x lo hi mx => simp only [execOp, ho] at h1; exact absurd h1 v_ne
 | fieldAddr t x k => simp only [execOp, ho] at h1; exact absurd h1 v_ne
 | field t x k => simp only [execOp, ho] at h1; exact absurd h1 v_ne
 | indexAddr t x ix => simp only [execOp, ho] at h1; exact absurd h1 v_ne
 | index t x ix => simp only [execOp, ho] at h1; exact absurd h1 v_ne
 | extract x k => simp only [execOp, ho] at h1; exact absurd h1 v_ne
 | _ => rw [ho] at e; simp only [opS] at e; cases e
/-- an operation and its call -/
theorem ran_does (hc : CallOk P call) (hw : WF H) (hr : HR A β H w) {R : Regs} {a : Act} (h : RR β R a.tmps) (o : Oper) (hA : ∀ i, (rddOf H R H.ban o.op).has i = true → memN H.ban i = false → A i) {v : Value} {H' : Hp} (hran : Ran call (opS P R H o.type o.op) v H') (K : Act → World → Prop) (Q : Exit → Act → World → Prop)
  (hK : ∀ β' v' w', St β H w β' H' w' → VR β' v v' → (HR A β' H' w' ∨ HR (Ab H.ban) β' H' w') → WF H' → K (a.put o.dst v') w') : o.wp P a w K Q := by
 have hdo := op_does (P := P) hw hr h o hA
 unfold Oper.wp
 rcases hran with e | ⟨e, rfl⟩ | ⟨f, args, H2, e, e2⟩
 · rw [e] at hdo
   obtain ⟨β', v', w', h1, h2, h3, h4, h5⟩ := hdo
   rw [h1, Oper.upon_value]
   exact hK β' v' w' h2 h3 (.inl h4) h5
 · rw [e] at hdo
   obtain ⟨w', h1, h2, h4, h5⟩ := hdo
   rw [h1, Oper.upon_skip]
   exact hK β undef w' h2 (VR.undef β) (.inl h4) h5
 · rw [e] at hdo
   obtain ⟨rfl, args', h1, h2⟩ := hdo
   have hcall : rddOf H2 R H2.ban o.op = .but H2.ban := enter_but o e h1 H2.ban
   rw [h1, Oper.upon_enter]
   have hr' : HR (Ab H2.ban) β H2 w := ⟨hr.dom, fun b k q hb hq hl ha => hr.row b k q hb hq hl (hA _ (by rw [hcall]; show (!(memN H2.ban q.grp)) = true; rw [show memN H2.ban q.grp = false from ha]; rfl) ha), hr.share, hr.base, hr.fix, hr.apart⟩
   refine (hc f args H2 v H' e2 β w args' hw hr' h2).mono ?_
   rintro e1 w1 ⟨β', v', rfl, h3, h4, h5, h6⟩
   exact hK β' v' w1 h4 h3 (.inr h6) h5
/-- .. whatever it is for -/
theorem ran_some (hc : CallOk P call) (hw : WF H) (hr : HR (Ab H.ban) β H w) {R : Regs} {a : Act} (h : RR β R a.tmps) (o : Oper) {v : Value} {H' : Hp} (hran : Ran call (opS P R H o.type o.op) v H') :
  ∃ β' v' w', St β H w β' H' w' ∧ VR β' v v' ∧ HR (Ab H.ban) β' H' w' ∧ WF H' := by
 have hdo := op_does (P := P) hw hr h o (fun i _ hi => hi)
 rcases hran with e | ⟨e, rfl⟩ | ⟨f, args, H2, e, e2⟩
 · rw [e] at hdo
   obtain ⟨β', v', w', h1, h2, h3, h4, h5⟩ := hdo
   exact ⟨β', v', w', h2, h3, h4, h5⟩
 · rw [e] at hdo
   obtain ⟨w', h1, h2, h4, h5⟩ := hdo
   exact ⟨β, undef, w', h2, VR.undef β, h4, h5⟩
 · rw [e] at hdo
   obtain ⟨rfl, args', h1, h2⟩ := hdo
   obtain ⟨e1, w1, fr, ⟨β', v', _, h3, h4, h5, h6⟩, _⟩ := hc f args H2 v H' e2 β w args' hw hr h2 []
   exact ⟨β', v', w1, h4, h3, h6, h5⟩
end
end
section
open Go.RowKit
set_option linter.unusedVariables false
set_option linter.unusedSimpArgs false
variable {bs : Inhabited Base}

/-- a block that was there, or has been made since -/
def Known (β0 : Bij) (n0 : Nat) (b : Nat) : Prop := (∃ k, β0 b = some k) ∨ n0 ≤ b
structure Facts (L : List Oper) (R0 : Regs) (β0 : Bij) (Rs : Nat → Regs) (Hs : Nat → Hp) (V : Nat → Value) (H1 : Nat → Hp) (ex : Nat → Prop) : Prop where
 wf : ∀ j, j ≤ L.length → WF (Hs j)
 ban : ∀ j, j ≤ L.length → (Hs j).ban = (Hs 0).ban
 old : ∀ j, j ≤ L.length → (Hs j).old = (Hs 0).old
 regs : ∀ j, j ≤ L.length → ∀ t, VB (Hs j).next (getR (Rs j) t)
 row : ∀ j, j ≤ L.length → ∀ b q, (Hs j).tr.get b = some q → Known β0 (Hs 0).next b → (Hs j).since q ≤ b → memN (Hs 0).ban q.grp = false → ∀ x, x ∈ q.cells → VB (Hs j).next x
 next : ∀ j, j < L.length → (Hs j).next ≤ (Hs (j + 1)).next
 same : ∀ j, j < L.length → ∀ b q, (Hs j).tr.get b = some q → ∃ q', (Hs (j + 1)).tr.get b = some q' ∧ q'.size = q.size ∧ q'.grp = q.grp
 keep : ∀ j, j < L.length → ∀ b q, (Hs j).tr.get b = some q → (ex j → q.grp ∉ (H1 j).wrote) → (Hs (j + 1)).tr.get b = some q ∧ (Hs (j + 1)).since q = (Hs j).since q
 wr : ∀ j, j < L.length → ex j → ∀ g, g ∈ (H1 j).wrote → g < (Hs j).next ∧ memN (banAt L R0 (Hs j) j) g = false
 vb : ∀ j, j < L.length → VB (Hs (j + 1)).next (V j)
 wrote : ∀ j, j < L.length → ex j → ∀ g, g ∈ (H1 j).wrote → g < (Hs 0).old → g ∈ (Hs (j + 1)).wrote
 more : ∀ j, j < L.length → ∀ g, g ∈ (Hs j).wrote → g ∈ (Hs (j + 1)).wrote
 came : ∀ j, j < L.length → ∀ g, g ∈ (Hs (j + 1)).wrote → g ∈ (Hs j).wrote ∨ (ex j ∧ g ∈ (H1 j).wrote ∧ g < (Hs 0).old)

section
variable {P : Program} {call : FuncId → List Value → Hp → Ret} {L : List Oper} {R0 : Regs} {N : Nat} {β0 : Bij} {a0 : Act} {w0 : World}
variable {Rs : Nat → Regs} {Hs : Nat → Hp} {V : Nat → Value} {H1 : Nat → Hp} {ex : Nat → Prop} {rd : Nat → Rdd}

theorem facts (hc : CallOk P call) (T : Trace P call L R0 Rs Hs V H1 ex rd) (hok : opsOk N L = true) (hs : S N β0 (Rs 0) (Hs 0) a0 w0) : Facts L R0 β0 Rs Hs V H1 ex := by
 have hdst : ∀ (l : List Oper), opsOk N l = true → ∀ (j : Nat) (o : Oper), l[j]? = some o → dstOk N o.dst = true := by
  intro l
  induction l with
  | nil => intro _ j o h; simp at h
  | cons x l ih =>
    intro h j o ho
    have h' : cond (dstOk N x.dst) (opsOk N l) false = true := h
    cases hx : dstOk N x.dst with
    | false => rw [hx] at h'; cases h'
    | true =>
      rw [hx] at h'
      cases j with
      | zero => simp at ho; subst ho; exact hx
      | succ j => exact ih h' j o (by simpa using ho)
 have step : ∀ j, j < L.length → ∀ β a w, S N β (Rs j) (Hs j) a w → ∃ β1 a1 w1, S N β1 (Rs (j + 1)) (Hs (j + 1)) a1 w1 ∧ (∀ b k, β b = some k → β1 b = some k) ∧ (∀ b, (Hs j).next ≤ b → b < (Hs (j + 1)).next → ∃ k, β1 b = some k) ∧
   (Hs j).next ≤ (Hs (j + 1)).next ∧ (Hs (j + 1)).ban = (Hs j).ban ∧ (Hs (j + 1)).old = (Hs j).old ∧
   (∀ b q, (Hs j).tr.get b = some q → ∃ q', (Hs (j + 1)).tr.get b = some q' ∧ q'.size = q.size ∧ q'.grp = q.grp) ∧
   (∀ b q, (Hs j).tr.get b = some q → (ex j → q.grp ∉ (H1 j).wrote) → (Hs (j + 1)).tr.get b = some q ∧ (Hs (j + 1)).since q = (Hs j).since q) ∧
   (ex j → ∀ g, g ∈ (H1 j).wrote → g < (Hs j).next ∧ memN (banAt L R0 (Hs j) j) g = false) ∧ VB (Hs (j + 1)).next (V j) ∧
   (ex j → ∀ g, g ∈ (H1 j).wrote → g < (Hs j).old → g ∈ (Hs (j + 1)).wrote) ∧ (∀ g, g ∈ (Hs j).wrote → g ∈ (Hs (j + 1)).wrote) ∧ (∀ g, g ∈ (Hs (j + 1)).wrote → g ∈ (Hs j).wrote ∨ (ex j ∧ g ∈ (H1 j).wrote ∧ g < (Hs j).old)) := by
  intro j hj β a w hs
  have ho := List.getElem?_eq_getElem hj
  generalize L[j] = o at ho
  have hd := hdst L hok j o ho
  by_cases hex : ex j
  · obtain ⟨_, _, hran, hR, hH⟩ := T.exec j o ho hex
    have hw1 := enter_WF hs.wf (banAt L R0 (Hs j) j)
    have hr1 : HR (Ab (enterD (banAt L R0 (Hs j) j) (Hs j)).ban) β (enterD (banAt L R0 (Hs j) j) (Hs j)) w := enter_HR hs.hr _ (fun g hg => ban_sub (L := L) (R0 := R0) (j := j) hg)
    obtain ⟨β1, v', w1, h1, h2, h3, h4⟩ := ran_some hc hw1 hr1 hs.rr o hran
    obtain ⟨h5, h6⟩ := leave_ok (L := L) (R0 := R0) (j := j) hs.wf hs.hr h1 h3 h4
    have h7 := leave_WF hs.wf h4 h1.next
    rw [hR, hH]
    refine ⟨β1, a.put o.dst v', w1, hs.put h6 h7 h5 h2 o.dst hd, h6.ext, h6.full, h6.next, rfl, rfl, h6.same, ?_, ?_, ?_, ?_, h6.wrote, ?_⟩
    · intro b q hq hnw
      have hg : q.grp < (Hs j).next := by
       have e1 := hs.wf.grp b q hq
       have e2 := hs.wf.pos hq
       omega
      exact h1.keep b q hq hg (hnw hex)
    · intro _ g hg
      rcases h1.wdom g hg with h | ⟨h8, h9, _⟩
      · cases h
      · exact ⟨h8, h9⟩
    · exact ⟨β1, v', fun b k hb => (h3.dom b k hb).1, h2⟩
    · intro _ g hg hlt
      exact (mem_joinW _ _ _ _).2 (.inr ⟨hg, hlt⟩)
    · intro g hg
      rcases (mem_joinW _ _ _ _).1 hg with h | ⟨h, h'⟩
      · exact .inl h
      · exact .inr ⟨hex, h, h'⟩
  · obtain ⟨_, hV, hR, hH⟩ := T.skip j o ho hex
    rw [hR, hH, hV]
    refine ⟨β, a.put o.dst undef, w, hs.put (St.refl _ _ _) hs.wf hs.hr (VR.undef β) o.dst hd, fun b k h => h, fun b h1 h2 => absurd h2 (by omega), Nat.le_refl _, rfl, rfl, fun b q h => ⟨q, h, rfl, rfl⟩, fun b q h _ => ⟨h, rfl⟩, fun h => absurd h hex, ?_, fun h => absurd h hex, fun g h => h, fun g h => .inl h⟩
    exact ⟨β, undef, fun b k hb => (hs.hr.dom b k hb).1, VR.undef β⟩
 have run : ∀ j, j ≤ L.length → ∃ β a w, S N β (Rs j) (Hs j) a w ∧ (Hs j).ban = (Hs 0).ban ∧ (Hs j).old = (Hs 0).old ∧ (Hs 0).next ≤ (Hs j).next ∧ ∀ b, Known β0 (Hs 0).next b → b < (Hs j).next → ∃ k, β b = some k := by
  intro j
  induction j with
  | zero =>
    intro _
    refine ⟨β0, a0, w0, hs, rfl, rfl, Nat.le_refl _, fun b hb hlt => ?_⟩
    rcases hb with hb | hb
    · exact hb
    · omega
  | succ j ih =>
    intro hj
    obtain ⟨β, a, w, h1, h2, h3, h3', h4⟩ := ih (by omega)
    obtain ⟨β1, a1, w1, h5, h6, h7, h8, h9, h10, _⟩ := step j (by omega) β a w h1
    refine ⟨β1, a1, w1, h5, h9.trans h2, h10.trans h3, Nat.le_trans h3' h8, fun b hb hlt => ?_⟩
    rcases Nat.lt_or_ge b (Hs j).next with h | h
    · obtain ⟨k, hk⟩ := h4 b hb h
      exact ⟨k, h6 b k hk⟩
    · exact h7 b h hlt
 have pick : ∀ j, j < L.length → ∃ β a w, S N β (Rs j) (Hs j) a w := fun j hj => let ⟨β, a, w, h, _⟩ := run j (by omega); ⟨β, a, w, h⟩
 refine ⟨fun j hj => ?_, fun j hj => ?_, fun j hj => ?_, fun j hj t => ?_, fun j hj b q hq hk hl hb x hx => ?_, fun j hj => ?_, fun j hj => ?_, fun j hj => ?_, fun j hj => ?_, fun j hj => ?_, fun j hj hx g hg hlt => ?_, fun j hj => ?_, fun j hj g hg => ?_⟩
 · obtain ⟨β, a, w, h, _⟩ := run j hj; exact h.wf
 · obtain ⟨β, a, w, _, h, _⟩ := run j hj; exact h
 · obtain ⟨β, a, w, _, _, h, _⟩ := run j hj; exact h
 · obtain ⟨β, a, w, h, _⟩ := run j hj; exact ⟨β, _, fun b k hb => (h.hr.dom b k hb).1, h.rr t⟩
 · obtain ⟨β, a, w, h, h1, _, _, h2⟩ := run j hj
   obtain ⟨k, hbk⟩ := h2 b hk (h.wf.pos hq).2
   obtain ⟨cs, _, _, h3⟩ := h.hr.row b k q hbk hq hl (by show memN (Hs j).ban q.grp = false; rw [h1]; exact hb)
   obtain ⟨i, hi⟩ := List.getElem?_of_mem hx
   obtain ⟨y, _, hv⟩ := h3 i x hi
   exact ⟨β, y, fun b k hb => (h.hr.dom b k hb).1, hv⟩
 · obtain ⟨β, a, w, h⟩ := pick j hj; obtain ⟨_, _, _, _, _, _, h1, _⟩ := step j hj β a w h; exact h1
 · obtain ⟨β, a, w, h⟩ := pick j hj; obtain ⟨_, _, _, _, _, _, _, _, _, h1, _⟩ := step j hj β a w h; exact h1
 · obtain ⟨β, a, w, h⟩ := pick j hj; obtain ⟨_, _, _, _, _, _, _, _, _, _, h1, _⟩ := step j hj β a w h; exact h1
 · obtain ⟨β, a, w, h⟩ := pick j hj; obtain ⟨_, _, _, _, _, _, _, _, _, _, _, h1, _⟩ := step j hj β a w h; exact h1
 · obtain ⟨β, a, w, h⟩ := pick j hj; obtain ⟨_, _, _, _, _, _, _, _, _, _, _, _, h1, _⟩ := step j hj β a w h; exact h1
 · obtain ⟨β, a, w, h⟩ := pick j hj
   obtain ⟨_, _, _, _, _, _, _, _, _, _, _, _, _, h1, _⟩ := step j hj β a w h
   obtain ⟨_, _, _, _, _, h2, _⟩ := run j (by omega)
   exact h1 hx g hg (by rw [h2]; exact hlt)
 · obtain ⟨β, a, w, h⟩ := pick j hj; obtain ⟨_, _, _, _, _, _, _, _, _, _, _, _, _, _, h1, _⟩ := step j hj β a w h; exact h1
 · obtain ⟨β, a, w, h⟩ := pick j hj
   obtain ⟨_, _, _, _, _, _, _, _, _, _, _, _, _, _, _, h1⟩ := step j hj β a w h
   obtain ⟨_, _, _, _, _, h2, _⟩ := run j (by omega)
   rw [← h2]; exact h1 g hg
end
end
section
open Go.RowKit
set_option linter.unusedVariables false
set_option linter.unusedSimpArgs false
variable {bs : Inhabited Base}

section
variable {L : List Oper} {R0 : Regs} {β0 : Bij} {Rs : Nat → Regs} {Hs : Nat → Hp} {V : Nat → Value} {H1 : Nat → Hp} {ex : Nat → Prop} {rd : Nat → Rdd}

theorem Facts.next_mono (F : Facts L R0 β0 Rs Hs V H1 ex) {i j : Nat} (hij : i ≤ j) (hj : j ≤ L.length) : (Hs i).next ≤ (Hs j).next := by
 induction j with
 | zero =>
   obtain rfl : i = 0 := (by omega)
   exact Nat.le_refl _
 | succ j ih =>
   rcases Nat.lt_or_ge j i with h | h
   · obtain rfl : i = j + 1 := (by omega)
     exact Nat.le_refl _
   · exact Nat.le_trans (ih h (by omega)) (F.next j (by omega))
theorem Facts.same_mono (F : Facts L R0 β0 Rs Hs V H1 ex) {i j b : Nat} {q : Blk} (hij : i ≤ j) (hj : j ≤ L.length) (hq : (Hs i).tr.get b = some q) : ∃ q', (Hs j).tr.get b = some q' ∧ q'.size = q.size ∧ q'.grp = q.grp := by
 induction j with
 | zero =>
   obtain rfl : i = 0 := (by omega)
   exact ⟨q, hq, rfl, rfl⟩
 | succ j ih =>
   rcases Nat.lt_or_ge j i with h | h
   · obtain rfl : i = j + 1 := (by omega)
     exact ⟨q, hq, rfl, rfl⟩
   · obtain ⟨q1, h1, h2, h3⟩ := ih h (by omega)
     obtain ⟨q2, h4, h5, h6⟩ := F.same j (by omega) b q1 h1
     exact ⟨q2, h4, h5.trans h2, h6.trans h3⟩
theorem Facts.keep_mono (F : Facts L R0 β0 Rs Hs V H1 ex) {i j b : Nat} {q : Blk} (hij : i ≤ j) (hj : j ≤ L.length) (hq : (Hs i).tr.get b = some q) (hn : ∀ k, i ≤ k → k < j → ex k → q.grp ∉ (H1 k).wrote) : (Hs j).tr.get b = some q ∧ (Hs j).since q = (Hs i).since q := by
 induction j with
 | zero =>
   obtain rfl : i = 0 := (by omega)
   exact ⟨hq, rfl⟩
 | succ j ih =>
   rcases Nat.lt_or_ge j i with h | h
   · obtain rfl : i = j + 1 := (by omega)
     exact ⟨hq, rfl⟩
   · obtain ⟨h1, h2⟩ := ih h (by omega) (fun k h1 h2 => hn k h1 (by omega))
     obtain ⟨h3, h4⟩ := F.keep j (by omega) b q h1 (hn j h (by omega))
     exact ⟨h3, h4.trans h2⟩
theorem Facts.alike (F : Facts L R0 β0 Rs Hs V H1 ex) {i j b : Nat} {q q' : Blk} (hi : i ≤ L.length) (hj : j ≤ L.length) (hq : (Hs i).tr.get b = some q) (hq' : (Hs j).tr.get b = some q') : q.grp = q'.grp ∧ q.size = q'.size := by
 obtain ⟨q1, h1, h2, h3⟩ := F.same_mono hi (Nat.le_refl _) hq
 obtain ⟨q2, h4, h5, h6⟩ := F.same_mono hj (Nat.le_refl _) hq'
 rw [h1] at h4; cases h4
 exact ⟨h3.symm.trans h6, h2.symm.trans h5⟩
theorem Facts.rec_of (F : Facts L R0 β0 Rs Hs V H1 ex) {j b : Nat} {q : Blk} (hj : j ≤ L.length) (hb : b < (Hs j).next) (hq : (Hs L.length).tr.get b = some q) : ∃ q', (Hs j).tr.get b = some q' ∧ q'.grp = q.grp ∧ q'.size = q.size := by
 have h1 := (F.wf _ (Nat.le_refl _)).pos hq
 obtain ⟨q', h2⟩ := (F.wf j hj).all b h1.1 hb
 have := F.alike hj (Nat.le_refl _) h2 hq
 exact ⟨q', h2, this.1, this.2⟩
theorem Facts.wrote_mono (F : Facts L R0 β0 Rs Hs V H1 ex) {i j g : Nat} (hij : i ≤ j) (hj : j ≤ L.length) (hg : g ∈ (Hs i).wrote) : g ∈ (Hs j).wrote := by
 induction j with
 | zero =>
   obtain rfl : i = 0 := (by omega)
   exact hg
 | succ j ih =>
   rcases Nat.lt_or_ge j i with h | h
   · obtain rfl : i = j + 1 := (by omega)
     exact hg
   · exact F.more j (by omega) g (ih h (by omega))
theorem Facts.came_from (F : Facts L R0 β0 Rs Hs V H1 ex) {j g : Nat} (hj : j ≤ L.length) (hg : g ∈ (Hs j).wrote) : g ∈ (Hs 0).wrote ∨ ∃ i, i < j ∧ ex i ∧ g ∈ (H1 i).wrote ∧ g < (Hs 0).old := by
 induction j with
 | zero => exact .inl hg
 | succ j ih =>
   rcases F.came j (by omega) g hg with h | ⟨h1, h2, h3⟩
   · rcases ih (by omega) h with h | ⟨i, h1, h2⟩
     · exact .inl h
     · exact .inr ⟨i, by omega, h2⟩
   · exact .inr ⟨j, by omega, h1, h2, h3⟩
end

/-- made there -/
def New (Hs : Nat → Hp) (d b : Nat) : Prop := (Hs d).next ≤ b ∧ b < (Hs (d + 1)).next
def Touch (Hs H1 : Nat → Hp) (ex : Nat → Prop) (i g : Nat) : Prop := ex i ∧ (g ∈ (H1 i).wrote ∨ New Hs i g)
/-- how far a group is -/
def Stage (n : Nat) (Hs H1 : Nat → Hp) (ex D : Nat → Prop) (g s : Nat) : Prop := ∀ i, i < n → Touch Hs H1 ex i g → (D i ↔ i < s)
def Rooted (Hs : Nat → Hp) (ex D : Nat → Prop) (g : Nat) : Prop := g < (Hs 0).next ∨ ∃ d, D d ∧ ex d ∧ New Hs d g
def Born (Hs H1 : Nat → Hp) (ex D : Nat → Prop) (b g : Nat) : Prop := b < (Hs 0).next ∨ ∃ d, D d ∧ ex d ∧ New Hs d b ∧ (g ∈ (H1 d).wrote ∨ (Hs d).next ≤ g)
theorem New.unique {L : List Oper} {R0 : Regs} {β0 : Bij} {Rs : Nat → Regs} {Hs : Nat → Hp} {V : Nat → Value} {H1 : Nat → Hp} {ex : Nat → Prop} (F : Facts L R0 β0 Rs Hs V H1 ex) {d d' b : Nat} (h : New Hs d b) (h' : New Hs d' b) (hd : d < L.length) (hd' : d' < L.length) : d = d' := by
 rcases Nat.lt_trichotomy d d' with e | e | e
 · have := F.next_mono (i := d + 1) (j := d') (by omega) (by omega)
   have h1 := h.2; have h2 := h'.1; omega
 · exact e
 · have := F.next_mono (i := d' + 1) (j := d) (by omega) (by omega)
   have h1 := h'.2; have h2 := h.1; omega
theorem New.old {L : List Oper} {R0 : Regs} {β0 : Bij} {Rs : Nat → Regs} {Hs : Nat → Hp} {V : Nat → Value} {H1 : Nat → Hp} {ex : Nat → Prop} (F : Facts L R0 β0 Rs Hs V H1 ex) {d b : Nat} (h : New Hs d b) (hd : d < L.length) : (Hs 0).next ≤ b :=
 Nat.le_trans (F.next_mono (Nat.zero_le d) (by omega)) h.1

/-- whatever has been done -/
structure Inv [Inhabited Base] (L : List Oper) (R0 : Regs) (N : Nat) (β0 : Bij) (w0 : World) (Hs : Nat → Hp) (V : Nat → Value) (H1 : Nat → Hp) (ex D : Nat → Prop) (β : Bij) (a : Act) (w : World) : Prop where
 cl : Closed L D
 lt : ∀ j, D j → j < L.length
 blk : ∀ b k, β b = some k → k.blk < w.heap.size
 rec_ : ∀ b k, β b = some k → ∃ q, (Hs L.length).tr.get b = some q ∧ q.size = k.size ∧ Born Hs H1 ex D b q.grp ∧ Rooted Hs ex D q.grp
 root : ∀ i, D i → ex i → ∀ g, g ∈ (H1 i).wrote → Rooted Hs ex D g
 share : ∀ b b' k k' q q', β b = some k → β b' = some k' → (Hs L.length).tr.get b = some q → (Hs L.length).tr.get b' = some q' → k.blk = k'.blk → q.grp = q'.grp
 row : ∀ b k s q, β b = some k → s ≤ L.length → (Hs s).tr.get b = some q → Stage L.length Hs H1 ex D q.grp s → (Hs s).since q ≤ b → memN (Hs 0).ban q.grp = false → RowV β q k w
 reg0 : ∀ t, (∀ (j : Nat) (o : Oper), D j → L[j]? = some o → o.dst ≠ some t) → VR β (getR R0 t) (a.tmps.getD t undef)
 reg1 : ∀ t (j : Nat) (o : Oper), D j → L[j]? = some o → o.dst = some t → (∀ (i : Nat) (o' : Oper), D i → L[i]? = some o' → o'.dst = some t → i ≤ j) → VR β (V j) (a.tmps.getD t undef)
 size : N ≤ a.tmps.size
 top : a.tmps.size ≤ 1000
 defers : a.defers = []
 os : w.os = w0.os
 tape : w.tape = w0.tape
 output : w.output = w0.output
 wsz : w0.heap.size ≤ w.heap.size
 ext : Ext β0 β
 block : ∀ r, r < w0.heap.size → (∀ b k q, β0 b = some k → (Hs 0).tr.get b = some q → k.blk = r → q.grp < (Hs 0).old ∧ q.grp ∉ (Hs L.length).wrote) → w.heap[r]? = w0.heap[r]?
 new : ∀ b k, β b = some k → β0 b = some k ∨ ((Hs 0).next ≤ b ∧ ∃ q', (Hs L.length).tr.get b = some q' ∧ (((Hs 0).next ≤ q'.grp ∧ w0.heap.size ≤ k.blk) ∨ ∃ b0 k0 q0, β0 b0 = some k0 ∧ (Hs 0).tr.get b0 = some q0 ∧ q0.grp = q'.grp ∧ ¬ (q0.grp < (Hs 0).old ∧ q0.grp ∉ (Hs L.length).wrote) ∧ (w0.heap.size ≤ k.blk ∨ k0.blk = k.blk)))
 wd : ∀ i, D i → ex i → ∀ g, g ∈ (H1 i).wrote → g < (Hs 0).old → memN (Hs 0).ban g = false ∧ ∃ b0 k0 q0, β0 b0 = some k0 ∧ (Hs 0).tr.get b0 = some q0 ∧ q0.grp = g
 full : ∀ d, D d → ∀ b, New Hs d b → ∃ k, β b = some k
 low : ∀ b k, baseAt b = some k → β b = some k ∧ b < (Hs 0).next
 fix : ∀ r o, baseRow r = some o → w.heap[r]? = some o
 apart : ∀ b k, β b = some k → baseRow k.blk = none

section
variable {P : Program} {call : FuncId → List Value → Hp → Ret} {L : List Oper} {R0 : Regs} {N : Nat} {β0 : Bij} {a0 : Act} {w0 : World}
variable {Rs : Nat → Regs} {Hs : Nat → Hp} {V : Nat → Value} {H1 : Nat → Hp} {ex : Nat → Prop} {rd : Nat → Rdd}
theorem noneIn_spec {r : Rdd} {g : Nat} : ∀ {l : List Nat}, noneIn l r = true → g ∈ l → r.has g = false
 | [], _, h => by cases h
 | x :: l, h, hg => by
   have h' : cond (r.has x) false (noneIn l r) = true := h
   cases hx : r.has x with
   | true => rw [hx] at h'; cases h'
   | false =>
     rw [hx] at h'
     rcases List.mem_cons.1 hg with rfl | hg
     · exact hx
     · exact noneIn_spec h' hg
/-- two that have to do with one group, one writing it, are ordered -/
theorem ordered (T : Trace P call L R0 Rs Hs V H1 ex rd) (hd : DrawOk L) {i j : Nat} (hi : i < L.length) (hj : j < L.length) (hij : i ≠ j) (hei : ex i) (hej : ex j) {g : Nat} (hg : g ∈ (H1 i).wrote) (hr : (rd j).has g = true) :
  (i < j ∧ bitS (maskS L j) i = true) ∨ (j < i ∧ bitS (maskS L i) j = true) := by
 have key : ∀ i j, i < j → j < L.length → ordB L i j = true → bitS (maskS L j) i = true := by
  intro i j h h2 ho
  rcases Bool.or_eq_true_iff.1 ho with h1 | h1
  · exact h1
  · have := mask_lt hd i _ (List.getElem?_eq_getElem (by omega)) j h1
    omega
 rcases Nat.lt_or_ge i j with h | h
 · left
   refine ⟨h, ?_⟩
   rcases T.apart i j h hj hei hej with h1 | ⟨h1, _⟩
   · exact key i j h hj h1
   · have := noneIn_spec h1 hg; rw [hr] at this; cases this
 · right
   refine ⟨by omega, ?_⟩
   rcases T.apart j i (by omega) hi hej hei with h1 | ⟨_, h1⟩
   · exact key j i (by omega) hi h1
   · have := noneIn_spec h1 hg; rw [hr] at this; cases this
end
end
section
open Go.RowKit
set_option linter.unusedVariables false
set_option linter.unusedSimpArgs false
variable {bs : Inhabited Base}

/-! ### what an operation writes, it looks at -/
section
variable {P : Program}
theorem roomS_inv {H : Hp} {e : TypeId} {n : Nx} {v : Value} {H' : Hp} (h : roomS H e n = .val v H') : n = .val v H' := by
 unfold roomS at h
 rcases cond_split h with ⟨_, h⟩ | ⟨_, h⟩
 · exact h
 · cases h
theorem newS_wrote {H : Hp} {cs : List Value} {e : TypeId} {n : Nat} {v : Value} {H' : Hp} (h : newS H cs e n = .val v H') : H'.wrote = H.wrote := by
 have h := roomS_inv h
 cases h; rfl
theorem newL_wrote {H : Hp} {cs : List Value} {e : TypeId} {n m : Nat} {v : Value} {H' : Hp} (h : newL H cs e n m = .val v H') : H'.wrote = H.wrote := by
 have h := roomS_inv h
 cases h; rfl
theorem nx_of_wrote {H H' : Hp} {n : Nat} {x : Option Value} {v : Value} (h : Nx.of n H x = .val v H') : H'.wrote = H.wrote := by
 cases x with
 | some u => cases h; rfl
 | none => cases h
theorem load_wrote {H H' : Hp} {t : TypeId} {x v : Value} (h : loadS P H t x = .val v H') : H'.wrote = H.wrote := by
 unfold loadS at h
 split at h
 · unfold loadB at h
   split at h
   · split at h
     · split at h <;> cases h; rfl
     · split at h <;> cases h; rfl
     · cases h
   · cases h
 · cases h
theorem wroteS_in {H : Hp} {i g : Nat} (h : g ∈ wroteS H i) : g = i ∨ g ∈ H.wrote := by
 unfold wroteS at h
 cases hc : (Nat.blt i H.old && !(memN H.wrote i)) with
 | true => rw [hc] at h; exact List.mem_cons.1 h
 | false => rw [hc] at h; exact .inr h
theorem store_wrote {H H' : Hp} {t : TypeId} {x v : Value} (h : storeS P H t v x = .skip H') : ∀ g, g ∈ H'.wrote → grpAt H (placeOf x) = some g ∨ g ∈ H.wrote := by
 unfold storeS at h
 split at h
 · rename_i b off
   unfold storeB at h
   split at h
   · rename_i k hk
     split at h
     · rcases cond_split h with ⟨_, h⟩ | ⟨_, h⟩
       · cases h
         intro g hg
         have hg : g ∈ wroteS H k.grp := hg
         rcases wroteS_in hg with rfl | hg
         · left
           show grpAt H (some b) = _
           unfold grpAt
           simp only [(read_inv hk).1]
         · exact .inr hg
       · cases h
     · cases h
   · cases h
 · cases h
theorem ran_wr {call : FuncId → List Value → Hp → Ret} {β : Bij} {R : Regs} {a : Act} (h : RR β R a.tmps) (o : Oper) {H : Hp} (h0 : H.wrote = []) {v : Value} {H' : Hp} (hran : Ran call (opS P R H o.type o.op) v H') (hb : ∀ g, g ∈ H'.wrote → memN H.ban g = false) : ∀ g, g ∈ H'.wrote → (rddOf H R H.ban o.op).has g = true := by
 intro g hg
 have but : rddOf H R H.ban o.op = .but H.ban → (rddOf H R H.ban o.op).has g = true := by
  intro e
  rw [e]
  show (!(memN H.ban g)) = true
  rw [hb g hg]; rfl
 have none : H'.wrote = H.wrote → (rddOf H R H.ban o.op).has g = true := by
  intro e
  rw [e, h0] at hg; cases hg
 by_cases hp : pureO o.op = true
 · have := pure_run (P := P) (H := H) h o hp
   rcases hran with e | ⟨e, _⟩ | ⟨f, args, H2, e, _⟩
   · rw [e] at this
     exact none (by rw [this.1])
   · rw [e] at this; exact this.elim
   · rw [e] at this; exact this.elim
 have hpf : pureO o.op = false := by simpa using hp
 have val : (∀ H2, opS P R H o.type o.op ≠ .skip H2) → (∀ f args H2, opS P R H o.type o.op ≠ .enter f args H2) → opS P R H o.type o.op = .val v H' := by
  intro h1 h2
  rcases hran with e | ⟨e, _⟩ | ⟨f, args, H2, e, _⟩
  · exact e
  · exact absurd e (h1 _)
  · exact absurd e (h2 _ _ _)
 cases ho : o.op with
 | store t x y =>
   rw [ho] at hran
   rcases hran with e | ⟨e, _⟩ | ⟨f, args, H2, e, _⟩
   · exfalso
     have e' : storeS P H t (evS R y) (evS R x) = .val v H' := e
     unfold storeS at e'
     split at e'
     · unfold storeB at e'
       split at e'
       · split at e'
         · rcases cond_split e' with ⟨_, h⟩ | ⟨_, h⟩ <;> cases h
         · cases e'
       · cases e'
     · cases e'
   · have e' : storeS P H t (evS R y) (evS R x) = .skip H' := e
     rcases store_wrote e' g hg with h1 | h1
     · show (oneOf (grpAt H (placeOf (evS R x)))).has g = true
       rw [h1]
       exact beq_t rfl
     · rw [h0] at h1; cases h1
   · exfalso
     have e' : storeS P H t (evS R y) (evS R x) = .enter f args H2 := e
     unfold storeS at e'
     split at e'
     · unfold storeB at e'
       split at e'
       · split at e'
         · rcases cond_split e' with ⟨_, h⟩ | ⟨_, h⟩ <;> cases h
         · cases e'
       · cases e'
     · cases e'
 | load t x =>
   refine ho ▸ none ?_
   rw [ho] at hran
   have key : ∀ n, loadS P H t (evS R x) = n → (∃ v, n = .val v H) ∨ ∃ k, n = .bad k := by
    intro n e
    unfold loadS at e
    split at e
    · unfold loadB at e
      split at e
      · split at e
        · split at e <;> subst e
          · exact .inl ⟨_, rfl⟩
          · exact .inr ⟨_, rfl⟩
        · split at e <;> subst e
          · exact .inl ⟨_, rfl⟩
          · exact .inr ⟨_, rfl⟩
        · subst e; exact .inr ⟨_, rfl⟩
      · subst e; exact .inr ⟨_, rfl⟩
    · subst e; exact .inr ⟨_, rfl⟩
   rcases hran with e | ⟨e, _⟩ | ⟨f, args, H2, e, _⟩
   · exact load_wrote (P := P) (x := evS R x) (t := t) e
   · rcases key _ e with ⟨_, h⟩ | ⟨_, h⟩ <;> cases h
   · rcases key _ e with ⟨_, h⟩ | ⟨_, h⟩ <;> cases h
 | alloc e =>
   refine ho ▸ none ?_
   rw [ho] at hran
   have key : ∀ n, allocS P H e = n → (∃ v H', n = .val v H' ∧ H'.wrote = H.wrote) ∨ ∃ k, n = .bad k := by
    intro n e
    unfold allocS at e
    split at e
    · unfold newS roomS at e
      rcases cond_split e with ⟨_, h⟩ | ⟨_, h⟩
      · subst h; exact .inl ⟨_, _, rfl, rfl⟩
      · subst h; exact .inr ⟨_, rfl⟩
    · subst e; exact .inr ⟨_, rfl⟩
   rcases hran with e | ⟨e, _⟩ | ⟨f, args, H2, e, _⟩
   · rcases key _ e with ⟨_, _, h, h'⟩ | ⟨_, h⟩ <;> cases h; exact h'
   · rcases key _ e with ⟨_, _, h, h'⟩ | ⟨_, h⟩ <;> cases h
   · rcases key _ e with ⟨_, _, h, h'⟩ | ⟨_, h⟩ <;> cases h
 | box e x =>
   refine ho ▸ none ?_
   rw [ho] at hran
   have key : ∀ n, opS P R H o.type (.box e x) = n → (∃ v H', n = .val v H' ∧ H'.wrote = H.wrote) ∨ ∃ k, n = .bad k := by
    intro n e
    rcases cond_split (show cond _ (newS H _ _ _) _ = n from e) with ⟨_, e⟩ | ⟨_, e⟩
    · unfold newS roomS at e
      rcases cond_split e with ⟨_, h⟩ | ⟨_, h⟩
      · subst h; exact .inl ⟨_, _, rfl, rfl⟩
      · subst h; exact .inr ⟨_, rfl⟩
    · subst e; exact .inr ⟨_, rfl⟩
   rcases hran with e | ⟨e, _⟩ | ⟨f, args, H2, e, _⟩
   · rcases key _ e with ⟨_, _, h, h'⟩ | ⟨_, h⟩ <;> cases h; exact h'
   · rcases key _ e with ⟨_, _, h, h'⟩ | ⟨_, h⟩ <;> cases h
   · rcases key _ e with ⟨_, _, h, h'⟩ | ⟨_, h⟩ <;> cases h
 | build t ps =>
   refine ho ▸ none ?_
   rw [ho] at hran
   have key : ∀ n, Nx.of 79 H (buildS P t (partsS R ps)) = n → (∃ v H', n = .val v H' ∧ H'.wrote = H.wrote) ∨ ∃ k, n = .bad k := by
    intro n e
    cases hb : buildS P t (partsS R ps) with
    | some u => rw [hb] at e; subst e; exact .inl ⟨_, _, rfl, rfl⟩
    | none => rw [hb] at e; subst e; exact .inr ⟨_, rfl⟩
   rcases hran with e | ⟨e, _⟩ | ⟨f, args, H2, e, _⟩
   · rcases key _ e with ⟨_, _, h, h'⟩ | ⟨_, h⟩ <;> cases h; exact h'
   · rcases key _ e with ⟨_, _, h, h'⟩ | ⟨_, h⟩ <;> cases h
   · rcases key _ e with ⟨_, _, h, h'⟩ | ⟨_, h⟩ <;> cases h
 | buildSlice t n ps =>
   refine ho ▸ none ?_
   rw [ho] at hran
   have key : ∀ m, buildSliceS P H t n (partsS R ps) = m → (∃ v H', m = .val v H' ∧ H'.wrote = H.wrote) ∨ ∃ k, m = .bad k := by
    intro n e
    unfold buildSliceS at e
    split at e
    · split at e
      · split at e
        · rcases cond_split e with ⟨_, e⟩ | ⟨_, e⟩
          · unfold newL roomS at e
            rcases cond_split e with ⟨_, h⟩ | ⟨_, h⟩
            · subst h; exact .inl ⟨_, _, rfl, rfl⟩
            · subst h; exact .inr ⟨_, rfl⟩
          · subst e; exact .inr ⟨_, rfl⟩
        · subst e; exact .inr ⟨_, rfl⟩
      · subst e; exact .inr ⟨_, rfl⟩
    · subst e; exact .inr ⟨_, rfl⟩
   rcases hran with e | ⟨e, _⟩ | ⟨f, args, H2, e, _⟩
   · rcases key _ e with ⟨_, _, h, h'⟩ | ⟨_, h⟩ <;> cases h; exact h'
   · rcases key _ e with ⟨_, _, h, h'⟩ | ⟨_, h⟩ <;> cases h
   · rcases key _ e with ⟨_, _, h, h'⟩ | ⟨_, h⟩ <;> cases h
 | makeSlice t l c =>
   refine ho ▸ none ?_
   rw [ho] at hran
   have key : ∀ m, makeSliceS P H t (evS R l) (evS R c) = m → (∃ v H', m = .val v H' ∧ H'.wrote = H.wrote) ∨ ∃ k, m = .bad k := by
    intro n e
    unfold makeSliceS at e
    split at e
    · split at e
      · rcases cond_split e with ⟨_, e⟩ | ⟨_, e⟩
        · unfold newL roomS at e
          rcases cond_split e with ⟨_, h⟩ | ⟨_, h⟩
          · subst h; exact .inl ⟨_, _, rfl, rfl⟩
          · subst h; exact .inr ⟨_, rfl⟩
        · subst e; exact .inr ⟨_, rfl⟩
      · subst e; exact .inr ⟨_, rfl⟩
    · subst e; exact .inr ⟨_, rfl⟩
   rcases hran with e | ⟨e, _⟩ | ⟨f, args, H2, e, _⟩
   · rcases key _ e with ⟨_, _, h, h'⟩ | ⟨_, h⟩ <;> cases h; exact h'
   · rcases key _ e with ⟨_, _, h, h'⟩ | ⟨_, h⟩ <;> cases h
   · rcases key _ e with ⟨_, _, h, h'⟩ | ⟨_, h⟩ <;> cases h
 | _ => first | (rw [ho] at hpf; cases hpf; done) | (refine ho ▸ but ?_; rw [ho]; rw [ho] at hpf; first | rfl | (show cond (pureO _) _ _ = _; rw [hpf]; rfl))
end
end
section
open Go.RowKit
set_option linter.unusedVariables false
set_option linter.unusedSimpArgs false
variable {bs : Inhabited Base}

section
variable {P : Program} {call : FuncId → List Value → Hp → Ret} {L : List Oper} {R0 : Regs} {N : Nat} {β0 : Bij} {w0 : World}
variable {Rs : Nat → Regs} {Hs : Nat → Hp} {V : Nat → Value} {H1 : Nat → Hp} {ex : Nat → Prop} {rd : Nat → Rdd}
theorem Trace.regs (T : Trace P call L R0 Rs Hs V H1 ex rd) {j : Nat} {o : Oper} (ho : L[j]? = some o) : Rs (j + 1) = putR (Rs j) (V j) o.dst := by
 by_cases h : ex j
 · exact (T.exec j o ho h).2.2.2.1
 · obtain ⟨_, h1, h2, _⟩ := T.skip j o ho h
   rw [h1]; exact h2
theorem Trace.wide (T : Trace P call L R0 Rs Hs V H1 ex rd) (h0 : Rs 0 = R0) (hw : Wide R0) : ∀ j, j ≤ L.length → Wide (Rs j) := by
 intro j
 induction j with
 | zero => intro _; rw [h0]; exact hw
 | succ j ih =>
   intro hj
   rw [T.regs (List.getElem?_eq_getElem hj)]
   exact (ih (by omega)).put _ _
/-- a slot in text order: the last one that wrote it -/
theorem Trace.slot (T : Trace P call L R0 Rs Hs V H1 ex rd) (h0 : Rs 0 = R0) (hw : Wide R0) {t : Nat} (ht : t < 1000) : ∀ j, j ≤ L.length →
  (∃ (i : Nat) (o : Oper), i < j ∧ L[i]? = some o ∧ o.dst = some t ∧ getR (Rs j) t = V i ∧ ∀ (i' : Nat) (o' : Oper), i' < j → L[i']? = some o' → o'.dst = some t → i' ≤ i) ∨
  ((∀ (i' : Nat) (o' : Oper), i' < j → L[i']? = some o' → o'.dst ≠ some t) ∧ getR (Rs j) t = getR R0 t) := by
 intro j
 induction j with
 | zero => intro _; rw [h0]; exact .inr ⟨fun i' o' h => by omega, rfl⟩
 | succ j ih =>
   intro hj
   have ho := List.getElem?_eq_getElem hj
   generalize L[j] = o at ho
   have hr := T.regs ho
   have hwd := T.wide h0 hw j (by omega)
   by_cases hd : o.dst = some t
   · left
     refine ⟨j, o, by omega, ho, hd, ?_, fun i' o' h _ _ => by omega⟩
     rw [hr, hd]
     show getR ((Rs j).set (V j) (Nat.succ t)) t = V j
     rw [getR_set _ _ _ _ (hwd t ht), if_pos rfl]
   · have e : getR (Rs (j + 1)) t = getR (Rs j) t := by
      rw [hr]
      cases hdd : o.dst with
      | none => rfl
      | some d =>
        show getR ((Rs j).set (V j) (Nat.succ d)) t = _
        unfold getR
        rw [Tr.get_set_other _ _ _ _ (by intro h; exact hd (by rw [hdd, Nat.succ.inj h]))]
     rcases ih (by omega) with ⟨i, x, h1, h2, h3, h4, h5⟩ | ⟨h1, h2⟩
     · refine .inl ⟨i, x, by omega, h2, h3, by rw [e]; exact h4, fun i' o' hi ho' hd' => ?_⟩
       rcases Nat.lt_or_ge i' j with h | h
       · exact h5 i' o' h ho' hd'
       · obtain rfl : i' = j := (by omega)
         rw [ho] at ho'; cases ho'
         exact absurd hd' hd
     · refine .inr ⟨fun i' o' hi ho' hd' => ?_, by rw [e]; exact h2⟩
       rcases Nat.lt_or_ge i' j with h | h
       · exact h1 i' o' h ho' hd'
       · obtain rfl : i' = j := (by omega)
         rw [ho] at ho'; cases ho'
         exact absurd hd' hd
theorem dst_named {o : Oper} {d : Tmp} (h : o.dst = some d) : d ∈ namesOf L o := by
 unfold namesOf
 rw [h]
 exact List.mem_append_left _ (List.mem_cons_self ..)

/-- the heap ahead of an operation, as far as it was made by then -/
def near (β : Bij) (n : Nat) : Bij := fun b => if b < n then β b else none
theorem near_inv {β : Bij} {n b : Nat} {k : Bk} (h : near β n b = some k) : b < n ∧ β b = some k := by
 unfold near at h
 split at h
 · rename_i hb; exact ⟨hb, h⟩
 · cases h
theorem near_of {β : Bij} {n b : Nat} {k : Bk} (hb : b < n) (h : β b = some k) : near β n b = some k := by
 unfold near; rw [if_pos hb]; exact h
def Allowed (L : List Oper) (Hs H1 : Nat → Hp) (ex D : Nat → Prop) (β : Bij) (j g : Nat) : Prop :=
 memN (Hs 0).ban g = false ∧ ∀ (b : Nat) (k : Bk) (q : Blk), near β (Hs j).next b = some k → (Hs j).tr.get b = some q → q.grp = g → Stage L.length Hs H1 ex D g j

section
variable {D : Nat → Prop} {β : Bij} {a : Act} {w : World} {j : Nat} {o : Oper}

theorem step_regs (T : Trace P call L R0 Rs Hs V H1 ex rd) (F : Facts L R0 β0 Rs Hs V H1 ex) (hd : DrawOk L) (I : Inv L R0 N β0 w0 Hs V H1 ex D β a w) (h0 : Rs 0 = R0) (hw : Wide R0) (ho : L[j]? = some o) (hD : ¬ D j) (hr : Ready L D j) : RR (near β (Hs j).next) (selR (Rs j) (namesOf L o)) a.tmps := by
 have hj : j < L.length := (List.getElem?_eq_some_iff.1 ho).1
 refine sel_RR I.top _ (fun t ht => ?_)
 have ht1 := hd.small j o ho t ht
 have hA : ∀ (i : Nat) (x : Oper), i < j → L[i]? = some x → x.dst = some t → D i := fun i x hi hx hdx =>
  mask_in hd I.cl j o ho hr i (hd.meet i j o x ho hx hi (.inl ⟨t, hdx, ht⟩))
 have hB : ∀ (i : Nat) (x : Oper), D i → L[i]? = some x → x.dst = some t → i < j := fun i x hDi hx hdx => by
  rcases Nat.lt_trichotomy i j with h | h | h
  · exact h
  · subst h; exact absurd hDi hD
  · exact absurd (mask_in hd I.cl i x hx (fun o' ho' => I.cl i o' ho' hDi) j (hd.meet j i x o hx ho h (.inr ⟨t, hdx, ht⟩))) hD
 refine VR.cut ?_ (F.regs j (by omega) t)
 rcases T.slot h0 hw ht1 j (by omega) with ⟨i, x, h1, h2, h3, h4, h5⟩ | ⟨h1, h2⟩
 · rw [h4]
   exact I.reg1 t i x (hA i x h1 h2 h3) h2 h3 (fun i' o' hDi ho' hd' => h5 i' o' (hB i' o' hDi ho' hd') ho' hd')
 · rw [h2]
   exact I.reg0 t (fun i x hDi hx hdx => h1 i x (hB i x hDi hx hdx) hx hdx)

theorem step_wanted (T : Trace P call L R0 Rs Hs V H1 ex rd) (F : Facts L R0 β0 Rs Hs V H1 ex) (hd : DrawOk L) (I : Inv L R0 N β0 w0 Hs V H1 ex D β a w) (h0 : Rs 0 = R0) (hw : Wide R0) {ops : Array Oper} (hL : ops.toList = L) (ho : L[j]? = some o) (hD : ¬ D j) (hr : Ready L D j) {t : Bool} (ht : wantedS L (Rs j) o.guard = some t) : Region.wanted o (yielded ops a.tmps) = t := by
 have h1 := step_regs T F hd I h0 hw ho hD hr
 have hsm := hd.small j o ho
 subst hL
 refine wanted_eq h1 ?_
 rw [← ht]
 cases hg : o.guard with
 | none => rfl
 | some p =>
   obtain ⟨g, want⟩ := p
   show (match (nth ops.toList g).bind (·.dst) with | some d => yieldS want (getR _ d) | none => some false) = (match (nth ops.toList g).bind (·.dst) with | some d => yieldS want (getR _ d) | none => some false)
   cases hn : (nth ops.toList g).bind (·.dst) with
   | none => rfl
   | some d =>
     have hm : d ∈ namesOf ops.toList o := by
      unfold namesOf
      refine List.mem_append_right _ (List.mem_append_right _ ?_)
      rw [hg]
      simp only
      rw [nth_eq] at hn
      rw [hn]
      exact List.mem_cons_self ..
     simp only
     rw [sel_in _ _ _ hm (hsm d hm)]

theorem step_HR (T : Trace P call L R0 Rs Hs V H1 ex rd) (F : Facts L R0 β0 Rs Hs V H1 ex) (hd : DrawOk L) (I : Inv L R0 N β0 w0 Hs V H1 ex D β a w) (ho : L[j]? = some o) : HR (Allowed L Hs H1 ex D β j) (near β (Hs j).next) (enterD (banAt L R0 (Hs j) j) (Hs j)) w := by
 have hj : j < L.length := (List.getElem?_eq_some_iff.1 ho).1
 refine ⟨fun b k hb => ?_, fun b k q hb hq hl hA => ?_, fun b b' k k' q q' hb hb' hq hq' e => ?_, fun b k h => near_of (Nat.lt_of_lt_of_le (I.low b k h).2 (F.next_mono (Nat.zero_le j) (by omega))) (I.low b k h).1, I.fix, fun b k h => I.apart b k (near_inv h).2⟩
 · obtain ⟨h1, h2⟩ := near_inv hb
   obtain ⟨q, h3, h4, _⟩ := I.rec_ b k h2
   obtain ⟨q', h5, h6, h7⟩ := F.rec_of (by omega) h1 h3
   exact ⟨h1, I.blk b k h2, q', h5, h7.trans h4⟩
 · obtain ⟨h1, h2⟩ := near_inv hb
   have hq : (Hs j).tr.get b = some q := hq
   have hl : (Hs j).since q ≤ b := hl
   obtain ⟨cs, h3, h4, h5⟩ := I.row b k j q h2 (by omega) hq (hA.2 b k q hb hq rfl) hl hA.1
   have hkn : Known β0 (Hs 0).next b := by
    rcases I.new b k h2 with h | ⟨h, _⟩
    · exact .inl ⟨k, h⟩
    · exact .inr h
   refine ⟨cs, h3, h4, fun i x hx => ?_⟩
   obtain ⟨y, hy, hv⟩ := h5 i x hx
   exact ⟨y, hy, hv.cut (F.row j (by omega) b q hq hkn hl hA.1 x (List.mem_of_getElem? hx))⟩
 · obtain ⟨_, h1⟩ := near_inv hb
   obtain ⟨_, h2⟩ := near_inv hb'
   obtain ⟨p, h3, _⟩ := I.rec_ b k h1
   obtain ⟨p', h4, _⟩ := I.rec_ b' k' h2
   have hq : (Hs j).tr.get b = some q := hq
   have hq' : (Hs j).tr.get b' = some q' := hq'
   have e1 := (F.alike (by omega) (Nat.le_refl _) hq h3).1
   have e2 := (F.alike (by omega) (Nat.le_refl _) hq' h4).1
   rw [e1, e2]
   exact I.share b b' k k' p p' h1 h2 h3 h4 e

theorem step_allowed (T : Trace P call L R0 Rs Hs V H1 ex rd) (F : Facts L R0 β0 Rs Hs V H1 ex) (hd : DrawOk L) (I : Inv L R0 N β0 w0 Hs V H1 ex D β a w) (ho : L[j]? = some o) (hD : ¬ D j) (hr : Ready L D j) (hex : ex j) {g : Nat} (hg : (rd j).has g = true) (hb : memN (banAt L R0 (Hs j) j) g = false) : Allowed L Hs H1 ex D β j g := by
 have hj : j < L.length := (List.getElem?_eq_some_iff.1 ho).1
 refine ⟨by rw [← F.ban j (by omega)]; exact ban_sub hb, fun b k q hbk hq he i hi ht => ?_⟩
 obtain ⟨h1, h2⟩ := near_inv hbk
 obtain ⟨hei, ht⟩ := ht
 have hgn : g ≤ b := by rw [← he]; exact ((F.wf j (by omega)).grp b q hq).2.1
 rcases Nat.lt_trichotomy i j with hij | hij | hij
 · refine ⟨fun _ => hij, fun _ => ?_⟩
   rcases ht with ht | ht
   · rcases ordered T hd hi hj (by omega) hei hex ht hg with ⟨_, h⟩ | ⟨h, _⟩
     · exact mask_in hd I.cl j o ho hr i h
     · omega
   · obtain ⟨p, h3, _, _, h4⟩ := I.rec_ b k h2
     rw [← (F.alike (by omega) (Nat.le_refl _) hq h3).1, he] at h4
     rcases h4 with h4 | ⟨d, hDd, _, h4⟩
     · have := New.old F ht hi; omega
     · have := New.unique F h4 ht (I.lt d hDd) hi
       rw [← this]; exact hDd
 · subst hij
   exact ⟨fun h => absurd h hD, fun h => absurd h (by omega)⟩
 · refine ⟨fun hDi => ?_, fun h => absurd h (by omega)⟩
   exfalso
   rcases ht with ht | ht
   · rcases ordered T hd hi hj (by omega) hei hex ht hg with ⟨h, _⟩ | ⟨_, h⟩
     · omega
     · exact hD (mask_in hd I.cl i _ (List.getElem?_eq_getElem hi) (fun o' ho' => I.cl i o' ho' hDi) j h)
   · have := F.next_mono (i := j) (j := i) (by omega) (by omega)
     have := ht.1
     omega
end
end
end
section
open Go.RowKit
set_option linter.unusedVariables false
set_option linter.unusedSimpArgs false
variable {bs : Inhabited Base}

/-- with what an operation made -/
def join (β β1 : Bij) : Bij := fun b => match β b with | some k => some k | none => β1 b
theorem join_left {β β1 : Bij} : Ext β (join β β1) := fun b k h => by unfold join; rw [h]
theorem join_inv {β β1 : Bij} {b : Nat} {k : Bk} (h : join β β1 b = some k) : β b = some k ∨ (β b = none ∧ β1 b = some k) := by
 unfold join at h
 cases hb : β b with
 | some k' => rw [hb] at h; exact .inl h
 | none => rw [hb] at h; exact .inr ⟨rfl, h⟩
theorem put_getD {a : Act} {d : Option Tmp} {v : Value} {t : Nat} (h : d ≠ some t) : (a.put d v).tmps.getD t undef = a.tmps.getD t undef := by
 cases d with
 | none => rfl
 | some d =>
   show (a.tmps.setIfInBounds d v).getD t undef = _
   have : d ≠ t := fun e => h (by rw [e])
   simp [Array.getD_eq_getD_getElem?, Array.getElem?_setIfInBounds, this]
theorem put_getD_same {a : Act} {v : Value} {t : Nat} (h : t < a.tmps.size) : (a.put (some t) v).tmps.getD t undef = v := by
 show (a.tmps.setIfInBounds t v).getD t undef = _
 simp [Array.getD_eq_getD_getElem?, Array.getElem?_setIfInBounds, h]

section
variable {P : Program} {call : FuncId → List Value → Hp → Ret} {L : List Oper} {R0 : Regs} {N : Nat} {β0 : Bij} {w0 : World}
variable {Rs : Nat → Regs} {Hs : Nat → Hp} {V : Nat → Value} {H1 : Nat → Hp} {ex : Nat → Prop} {rd : Nat → Rdd}
variable {D : Nat → Prop} {β : Bij} {a : Act} {w : World} {j : Nat} {o : Oper}
theorem Rooted.up {ex D D' : Nat → Prop} (h : ∀ i, D i → D' i) {g : Nat} (hr : Rooted Hs ex D g) : Rooted Hs ex D' g := by
 rcases hr with hr | ⟨d, h1, h2⟩
 · exact .inl hr
 · exact .inr ⟨d, h d h1, h2⟩
theorem Born.up {ex D D' : Nat → Prop} (h : ∀ i, D i → D' i) {b g : Nat} (hr : Born Hs H1 ex D b g) : Born Hs H1 ex D' b g := by
 rcases hr with hr | ⟨d, h1, h2⟩
 · exact .inl hr
 · exact .inr ⟨d, h d h1, h2⟩

theorem step_inv (T : Trace P call L R0 Rs Hs V H1 ex rd) (F : Facts L R0 β0 Rs Hs V H1 ex) (hd : DrawOk L) (I : Inv L R0 N β0 w0 Hs V H1 ex D β a w)
  (ho : L[j]? = some o) (hD : ¬ D j) (hr : Ready L D j) (hex : ex j) (hdst : dstOk N o.dst = true) (hrd : ∀ g, g ∈ (H1 j).wrote → (rd j).has g = true)
  (hb0 : ∀ b k, β0 b = some k → ∃ q, (Hs 0).tr.get b = some q)
  {β1 : Bij} {v' : Value} {w1 : World} (hst : St (near β (Hs j).next) (enterD (banAt L R0 (Hs j) j) (Hs j)) w β1 (H1 j) w1) (hv : VR β1 (V j) v')
  (hor : HR (Allowed L Hs H1 ex D β j) β1 (H1 j) w1 ∨ HR (Ab (banAt L R0 (Hs j) j)) β1 (H1 j) w1) :
  Inv L R0 N β0 w0 Hs V H1 ex (fun i => D i ∨ i = j) (join β β1) (a.put o.dst v') w1 := by
 have hj : j < L.length := (List.getElem?_eq_some_iff.1 ho).1
 have hup : ∀ i, D i → (fun i => D i ∨ i = j) i := fun i h => .inl h
 have hHs : Hs (j + 1) = leaveD (Hs j) (H1 j) := (T.exec j o ho hex).2.2.2.2
 have htr : (Hs (j + 1)).tr = (H1 j).tr := by rw [hHs]; rfl
 have hnx : (Hs (j + 1)).next = (H1 j).next := by rw [hHs]; rfl
 have hsn : ∀ q, (Hs (j + 1)).since q = (H1 j).since q := fun q => by rw [hHs]; rfl
 have hwr := F.wr j hj hex
 have hdom : ∀ b k, β1 b = some k → b < (H1 j).next ∧ k.blk < w1.heap.size ∧ ∃ q, (H1 j).tr.get b = some q ∧ q.size = k.size := by
  rcases hor with h | h <;> exact h.dom
 have hshare : ∀ b b' k k' q q', β1 b = some k → β1 b' = some k' → (H1 j).tr.get b = some q → (H1 j).tr.get b' = some q' → k.blk = k'.blk → q.grp = q'.grp := by
  rcases hor with h | h <;> exact h.share
 have hlt : ∀ b q, (Hs j).tr.get b = some q → q.grp < (Hs j).next := fun b q hq => by
  have e1 := (F.wf j (by omega)).grp b q hq
  have e2 := (F.wf j (by omega)).pos hq
  omega
 -- what is new
 have hnew : ∀ b k, β1 b = some k → (b < (Hs j).next ∧ β b = some k) ∨ (New Hs j b ∧ ∃ q', (Hs (j + 1)).tr.get b = some q' ∧ (((Hs j).next ≤ q'.grp ∧ w.heap.size ≤ k.blk) ∨ ∃ b0 k0 q0, near β (Hs j).next b0 = some k0 ∧ (Hs j).tr.get b0 = some q0 ∧ q0.grp = q'.grp ∧ q0.grp ∈ (H1 j).wrote ∧ (w.heap.size ≤ k.blk ∨ k0.blk = k.blk))) := by
  intro b k hb
  rcases hst.new b k hb with h | ⟨h1, h2, q', h3, h4⟩
  · exact .inl (near_inv h)
  · refine .inr ⟨⟨h1, by rw [hnx]; exact h2⟩, q', by rw [htr]; exact h3, ?_⟩
    rcases h4 with h4 | ⟨b0, k0, q0, h5, h6, h7, h8, h9⟩
    · exact .inl h4
    · refine .inr ⟨b0, k0, q0, h5, h6, h7, ?_, h9⟩
      by_cases hw : q0.grp ∈ (H1 j).wrote
      · exact hw
      · exact absurd ⟨hlt b0 q0 h6, hw⟩ h8
 -- nothing that was there is new
 have hnot : ∀ b k, β b = some k → ¬ New Hs j b := by
  intro b k hb hn
  obtain ⟨q, _, _, hbn, _⟩ := I.rec_ b k hb
  rcases hbn with h | ⟨d, h1, _, h2, _⟩
  · have := New.old F hn hj; omega
  · have := New.unique F h2 hn (I.lt d h1) hj
    rw [this] at h1; exact hD h1
 have hnone : ∀ b, New Hs j b → β b = none := by
  intro b hn
  cases hb : β b with
  | none => rfl
  | some k => exact absurd hn (hnot b k hb)
 have hext1 : Ext β1 (join β β1) := by
  intro b k hb
  rcases hnew b k hb with ⟨_, h⟩ | ⟨h, _⟩
  · exact join_left b k h
  · unfold join; rw [hnone b h]; exact hb
 have hnear : ∀ b k, b < (Hs j).next → β b = some k → β1 b = some k := fun b k h1 h2 => hst.ext b k (near_of h1 h2)
 have hjoin : ∀ b k, join β β1 b = some k → β b = some k ∨ (β1 b = some k ∧ New Hs j b) := by
  intro b k hb
  rcases join_inv hb with h | ⟨h1, h2⟩
  · exact .inl h
  · rcases hnew b k h2 with ⟨_, h⟩ | ⟨h, _⟩
    · exact .inl h
    · exact .inr ⟨h2, h⟩
 have hrootb : ∀ b0 k0 q0, near β (Hs j).next b0 = some k0 → (Hs j).tr.get b0 = some q0 → Rooted Hs ex D q0.grp := by
  intro b0 k0 q0 h1 h2
  obtain ⟨p, h3, _, _, h4⟩ := I.rec_ b0 k0 (near_inv h1).2
  rw [(F.alike (by omega) (Nat.le_refl _) h2 h3).1]; exact h4
 have hrootw : ∀ g, g ∈ (H1 j).wrote → Rooted Hs ex D g := by
  intro g hg
  rcases hst.wdom g hg with h | ⟨_, _, b0, k0, q0, h1, h2, h3⟩
  · cases h
  · rw [← h3]; exact hrootb b0 k0 q0 h1 h2
 have hnoroot : ∀ g, New Hs j g → ¬ Rooted Hs ex D g := by
  intro g hn hr'
  rcases hr' with h | ⟨d, h1, _, h2⟩
  · have := New.old F hn hj; omega
  · have := New.unique F h2 hn (I.lt d h1) hj
    rw [this] at h1; exact hD h1
 have hfin : ∀ b q, (Hs (j + 1)).tr.get b = some q → ∃ q', (Hs L.length).tr.get b = some q' ∧ q'.size = q.size ∧ q'.grp = q.grp := fun b q hq => F.same_mono (by omega) (Nat.le_refl _) hq
 -- rows that have been written, or are new
 have hrow : ∀ b k q, β1 b = some k → (Hs (j + 1)).tr.get b = some q → (Hs (j + 1)).since q ≤ b → (q.grp ∈ (H1 j).wrote ∨ ((Hs j).next ≤ q.grp ∧ memN (Hs 0).ban q.grp = false)) → RowV β1 q k w1 := by
  intro b k q hb hq hl hg
  rw [htr] at hq
  rw [hsn] at hl
  rcases hor with h | h
  · refine h.row b k q hb hq hl ?_
    rcases hg with hg | ⟨hg, hbn⟩
    · exact step_allowed T F hd I ho hD hr hex (hrd _ hg) (hwr _ hg).2
    · refine ⟨hbn, fun b' k' q' hb' hq' e => ?_⟩
      have := hlt b' q' hq'
      omega
  · refine h.row b k q hb hq hl ?_
    rcases hg with hg | ⟨hg, hbn⟩
    · exact (hwr _ hg).2
    · show memN (banAt L R0 (Hs j) j) q.grp = false
      cases hba : memN (banAt L R0 (Hs j) j) q.grp with
      | false => rfl
      | true =>
        have := ban_new (L := L) (R0 := R0) (j := j) (F.wf j (by omega)) (by rw [F.ban j (by omega)]; exact hbn) hba
        omega
 have hsz : w.heap.size ≤ w1.heap.size := hst.size
 -- one far off and one new
 have hmix : ∀ b b' k k' q q', β b = some k → β1 b' = some k' → New Hs j b' → (Hs L.length).tr.get b = some q → (Hs L.length).tr.get b' = some q' → k.blk = k'.blk → q.grp = q'.grp := by
  intro b b' k k' q q' hb hb' hn hq hq' e
  rcases hnew b' k' hb' with ⟨h1, _⟩ | ⟨_, p, h3, h4⟩
  · have := hn.1; omega
  · obtain ⟨p', h5, _, h6⟩ := hfin b' p h3
    rw [hq'] at h5; cases h5
    have hblk := I.blk b k hb
    rcases h4 with ⟨_, h4⟩ | ⟨b0, k0, q0, h7, h8, h9, _, h10⟩
    · omega
    · rcases h10 with h10 | h10
      · omega
      · obtain ⟨p0, h11, _⟩ := I.rec_ b0 k0 (near_inv h7).2
        have e1 := (F.alike (by omega) (Nat.le_refl _) h8 h11).1
        have e2 := I.share b b0 k k0 q p0 hb (near_inv h7).2 hq h11 (e.trans h10.symm)
        rw [e2, ← e1, h9, h6]
 have hlast : ∀ g, g ∈ (H1 j).wrote → ∀ k, j < k → k < L.length → (D k ∨ k = j) → ex k → g ∉ (H1 k).wrote := by
  intro g hg k hjk hk hDk hek hgk
  have hDk : D k := hDk.resolve_right (by omega)
  rcases ordered T hd hk hj (by omega) hek hex hgk (hrd g hg) with ⟨h, _⟩ | ⟨_, h⟩
  · omega
  · exact hD (mask_in hd I.cl k _ (List.getElem?_eq_getElem hk) (fun o' ho' => I.cl k o' ho' hDk) j h)
 refine ⟨?_, ?_, ?_, ?_, ?_, ?_, ?_, ?_, ?_, ?_, ?_, ?_, ?_, ?_, ?_, ?_, ?_, ?_, ?_, ?_, ?_, fun b k h => ⟨join_left b k (I.low b k h).1, (I.low b k h).2⟩, (by rcases hor with h | h <;> exact h.fix), fun b k h => by
  rcases join_inv h with h1 | ⟨_, h1⟩
  · exact I.apart b k h1
  · rcases hor with h2 | h2 <;> exact h2.apart b k h1⟩
 · -- cl
   rintro i x hx (hDi | rfl) e he hb
   · exact .inl (I.cl i x hx hDi e he hb)
   · exact .inl (hr x hx e he hb)
 · -- lt
   rintro i (h | rfl)
   · exact I.lt i h
   · exact hj
 · -- blk
   intro b k hb
   rcases hjoin b k hb with h | ⟨h, _⟩
   · have := I.blk b k h; omega
   · exact (hdom b k h).2.1
 · -- rec_
   intro b k hb
   rcases hjoin b k hb with h | ⟨h, hn⟩
   · obtain ⟨q, h1, h2, h3, h4⟩ := I.rec_ b k h
     exact ⟨q, h1, h2, h3.up hup, h4.up hup⟩
   · obtain ⟨_, _, q1, h1, h2⟩ := hdom b k h
     have h1' : (Hs (j + 1)).tr.get b = some q1 := by rw [htr]; exact h1
     obtain ⟨q, h3, h4, h5⟩ := hfin b q1 h1'
     refine ⟨q, h3, h4.trans h2, ?_, ?_⟩
     · refine .inr ⟨j, .inr rfl, hex, hn, ?_⟩
       rcases hnew b k h with ⟨h6, _⟩ | ⟨_, p, h6, h7⟩
       · have := hn.1; omega
       · rw [h1'] at h6; cases h6
         rw [h5]
         rcases h7 with ⟨h7, _⟩ | ⟨b0, k0, q0, _, _, h8, h9, _⟩
         · exact .inr h7
         · rw [← h8]; exact .inl h9
     · rcases hnew b k h with ⟨h6, _⟩ | ⟨_, p, h6, h7⟩
       · have := hn.1; omega
       · rw [h1'] at h6; cases h6
         rw [h5]
         rcases h7 with ⟨h7, _⟩ | ⟨b0, k0, q0, h10, h11, h8, h9, _⟩
         · have := ((F.wf (j + 1) (by omega)).grp b q1 h1').2.1
           exact .inr ⟨j, .inr rfl, hex, h7, by have := hn.2; omega⟩
         · rw [← h8]; exact (hrootw _ h9).up hup
 · -- root
   rintro i (h | rfl) hei g hg
   · exact (I.root i h hei g hg).up hup
   · exact (hrootw g hg).up hup
 · -- share
   intro b b' k k' q q' hb hb' hq hq' e
   rcases hjoin b k hb with h | ⟨h, hn⟩ <;> rcases hjoin b' k' hb' with h' | ⟨h', hn'⟩
   · exact I.share b b' k k' q q' h h' hq hq' e
   · exact hmix b b' k k' q q' h h' hn' hq hq' e
   · exact (hmix b' b k' k q' q h' h hn hq' hq e.symm).symm
   · obtain ⟨_, _, p, h1, _⟩ := hdom b k h
     obtain ⟨_, _, p', h2, _⟩ := hdom b' k' h'
     have e1 := (F.alike (i := j + 1) (by omega) (Nat.le_refl _) (by rw [htr]; exact h1) hq).1
     have e2 := (F.alike (i := j + 1) (by omega) (Nat.le_refl _) (by rw [htr]; exact h2) hq').1
     rw [← e1, ← e2]
     exact hshare b b' k k' p p' h h' h1 h2 e
 · -- row
   intro b k s q hb hs hq hstg hl hbn
   by_cases hg : q.grp ∈ (H1 j).wrote
   · have hjs : j < s := ((hstg j hj ⟨hex, .inl hg⟩).1 (.inr rfl))
     have hfar : b < (Hs (j + 1)).next ∧ β1 b = some k := by
      rcases hjoin b k hb with h | ⟨h, hn⟩
      · rcases Nat.lt_or_ge b (Hs j).next with hlt' | hge
        · exact ⟨Nat.lt_of_lt_of_le hlt' (F.next j hj), hnear b k hlt' h⟩
        · exfalso
          obtain ⟨p, h1, _, h2, _⟩ := I.rec_ b k h
          have e1 := (F.alike hs (Nat.le_refl _) hq h1).1
          rw [← e1] at h2
          rcases h2 with h2 | ⟨d, h2, h3, h4, h5⟩
          · have := F.next_mono (i := 0) (j := j) (by omega) (by omega)
            omega
          · have hdl := I.lt d h2
            have hdj : j < d := by
             rcases Nat.lt_trichotomy d j with e | e | e
             · have := F.next_mono (i := d + 1) (j := j) (by omega) (by omega)
               have := h4.2
               omega
             · rw [e] at h2; exact absurd h2 hD
             · exact e
            rcases h5 with h5 | h5
            · exact hlast _ hg d hdj hdl (.inl h2) h3 h5
            · have e2 := (hwr _ hg).1
              have := F.next_mono (i := j) (j := d) (by omega) (by omega)
              omega
      · exact ⟨hn.2, h⟩
     obtain ⟨p, h1, _, _⟩ := F.same_mono hs (Nat.le_refl _) hq
     obtain ⟨q1, h2, h3, _⟩ := F.rec_of (j := j + 1) (by omega) hfar.1 h1
     have e1 : q1.grp = q.grp := (F.alike (by omega) hs h2 hq).1
     have hkeep := F.keep_mono (i := j + 1) (j := s) (by omega) hs h2 (fun i h4 h5 hei hgi => by
      rw [e1] at hgi
      have hDi : D i ∨ i = j := (hstg i (by omega) ⟨hei, .inl hgi⟩).2 h5
      exact hlast _ hg i (by omega) (by omega) hDi hei hgi)
     rw [hq] at hkeep
     have eq1 : q = q1 := Option.some.inj hkeep.1
     subst eq1
     have hrv := hrow b k q hfar.2 h2 (by rw [← hkeep.2]; exact hl) (.inl hg)
     exact hrv.mono hext1 rfl
   · rcases hjoin b k hb with h | ⟨h, hn⟩
     · obtain ⟨p, h1, _, _, h2⟩ := I.rec_ b k h
       have e1 := (F.alike hs (Nat.le_refl _) hq h1).1
       rw [← e1] at h2
       have hnt : ¬ Touch Hs H1 ex j q.grp := by
        rintro ⟨_, h3 | h3⟩
        · exact hg h3
        · exact hnoroot _ h3 h2
       have hstg' : Stage L.length Hs H1 ex D q.grp s := by
        intro i hi ht
        rw [← hstg i hi ht]
        refine ⟨.inl, fun h3 => ?_⟩
        rcases h3 with h3 | rfl
        · exact h3
        · exact absurd ht hnt
       refine (I.row b k s q h hs hq hstg' hl hbn).mono join_left (hst.block _ (I.blk b k h) (fun b1 k1 q1 hb1 hq1 e => ?_))
       have hq1 : (Hs j).tr.get b1 = some q1 := hq1
       obtain ⟨p1, h3, _⟩ := I.rec_ b1 k1 (near_inv hb1).2
       have e2 := (F.alike (by omega) (Nat.le_refl _) hq1 h3).1
       have e3 := I.share b1 b k1 k p1 p (near_inv hb1).2 h h3 h1 e
       refine ⟨hlt b1 q1 hq1, ?_⟩
       rw [e2, e3, ← e1]; exact hg
     · rcases hnew b k h with ⟨h6, _⟩ | ⟨_, q1, h2, h7⟩
       · have := hn.1; omega
       · have e1 : q1.grp = q.grp := (F.alike (by omega) hs h2 hq).1
         rw [e1] at h7
         have hfr : (Hs j).next ≤ q.grp := by
          rcases h7 with ⟨h7, _⟩ | ⟨b0, k0, q0, _, _, h8, h9, _⟩
          · exact h7
          · rw [h8] at h9; exact absurd h9 hg
         have hgn : New Hs j q.grp := by
          have := ((F.wf (j + 1) (by omega)).grp b q1 h2).2.1
          have := hn.2
          exact ⟨hfr, by omega⟩
         have hjs : j < s := ((hstg j hj ⟨hex, .inr hgn⟩).1 (.inr rfl))
         have hkeep := F.keep_mono (i := j + 1) (j := s) (by omega) hs h2 (fun i h4 h5 hei hgi => by
          rw [e1] at hgi
          have hDi : D i ∨ i = j := (hstg i (by omega) ⟨hei, .inl hgi⟩).2 h5
          exact hnoroot _ hgn (I.root i (hDi.resolve_right (by omega)) hei _ hgi))
         rw [hq] at hkeep
         have eq1 : q = q1 := Option.some.inj hkeep.1
         subst eq1
         have hrv := hrow b k q h h2 (by rw [← hkeep.2]; exact hl) (.inr ⟨hfr, hbn⟩)
         exact hrv.mono hext1 rfl
 · -- reg0
   intro t ht
   rw [put_getD (ht j o (.inr rfl) ho)]
   exact (I.reg0 t (fun i x hDi => ht i x (.inl hDi))).mono join_left
 · -- reg1
   intro t i x hDi hx hdx hmx
   by_cases hot : o.dst = some t
   · have hij : i = j := by
      rcases hDi with hDi | hDi
      · exfalso
        have h1 := hmx j o (.inr rfl) ho hot
        have h2 : j ≠ i := fun e => by rw [← e] at hDi; exact hD hDi
        have h3 := hd.meet j i x o hx ho (by omega) (.inl ⟨t, hot, dst_named hdx⟩)
        exact hD (mask_in hd I.cl i x hx (fun o' ho' => I.cl i o' ho' hDi) j h3)
      · exact hDi
     subst hij
     have htn : t < N := Nat.le_of_ble_eq_true (by rw [hot] at hdst; exact hdst)
     rw [hot, put_getD_same (Nat.lt_of_lt_of_le htn I.size)]
     exact hv.mono hext1
   · rw [put_getD hot]
     rcases hDi with hDi | rfl
     · exact (I.reg1 t i x hDi hx hdx (fun i' o' hi' => hmx i' o' (.inl hi'))).mono join_left
     · rw [ho] at hx; cases hx; exact absurd hdx hot
 · rw [put_size]; exact I.size
 · rw [put_size]; exact I.top
 · rw [put_defers]; exact I.defers
 · exact hst.os.trans I.os
 · exact hst.tape.trans I.tape
 · exact hst.output.trans I.output
 · exact Nat.le_trans I.wsz hsz
 · exact I.ext.trans join_left
 · -- block
   intro r hrs hk
   refine (hst.block r (Nat.lt_of_lt_of_le hrs I.wsz) (fun b k q hb hq e => ?_)).trans (I.block r hrs hk)
   have hq : (Hs j).tr.get b = some q := hq
   refine ⟨hlt b q hq, fun hg => ?_⟩
   have hinL : q.grp < (Hs 0).old → q.grp ∈ (Hs L.length).wrote := fun h => F.wrote_mono (i := j + 1) (by omega) (Nat.le_refl _) (F.wrote j hj hex _ hg h)
   rcases I.new b k (near_inv hb).2 with h | ⟨_, q', h1, h2⟩
   · obtain ⟨q0, h3⟩ := hb0 b k h
     have e1 := (F.alike (Nat.zero_le _) (by omega) h3 hq).1
     obtain ⟨h4, h5⟩ := hk b k q0 h h3 e
     rw [e1] at h4 h5
     exact h5 (hinL h4)
   · rcases h2 with ⟨_, h2⟩ | ⟨b0, k0, q0, h3, h4, h5, h6, h7⟩
     · omega
     · rcases h7 with h7 | h7
       · omega
       · exact h6 (hk b0 k0 q0 h3 h4 (h7.trans e))
 · -- new
   intro b k hb
   rcases hjoin b k hb with h | ⟨h, hn⟩
   · exact I.new b k h
   · refine .inr ⟨New.old F hn hj, ?_⟩
     rcases hnew b k h with ⟨h6, _⟩ | ⟨_, q1, h2, h7⟩
     · have := hn.1; omega
     · obtain ⟨q', h3, _, h4⟩ := hfin b q1 h2
       refine ⟨q', h3, ?_⟩
       rw [h4]
       have hn0 := F.next_mono (i := 0) (j := j) (by omega) (by omega)
       have hw0 := I.wsz
       rcases h7 with ⟨h7, h8⟩ | ⟨b0, k0, q0, h8, h9, h10, h11, h12⟩
       · exact .inl ⟨by omega, by omega⟩
       · have hinL : q0.grp < (Hs 0).old → q0.grp ∈ (Hs L.length).wrote := fun h => F.wrote_mono (i := j + 1) (by omega) (Nat.le_refl _) (F.wrote j hj hex _ h11 h)
         rcases I.new b0 k0 (near_inv h8).2 with g | ⟨_, p, g1, g2⟩
         · obtain ⟨p, g1⟩ := hb0 b0 k0 g
           have e1 := (F.alike (Nat.zero_le _) (by omega) g1 h9).1
           refine .inr ⟨b0, k0, p, g, g1, e1.trans h10, fun hh => ?_, ?_⟩
           · rw [e1] at hh; exact hh.2 (hinL hh.1)
           · rcases h12 with h12 | h12
             · exact .inl (by omega)
             · exact .inr h12
         · have e1 := (F.alike (by omega) (Nat.le_refl _) h9 g1).1
           rw [← e1, h10] at g2
           rcases g2 with ⟨g2, g3⟩ | ⟨b2, k2, q2, g3, g4, g5, g6, g7⟩
           · refine .inl ⟨g2, ?_⟩
             rcases h12 with h12 | h12 <;> omega
           · refine .inr ⟨b2, k2, q2, g3, g4, g5, g6, ?_⟩
             rcases h12 with h12 | h12
             · exact .inl (by omega)
             · rcases g7 with g7 | g7
               · exact .inl (by omega)
               · exact .inr (g7.trans h12)
 · -- wd
   rintro i (h | rfl) hei g hg hlt0
   · exact I.wd i h hei g hg hlt0
   · rcases hst.wdom g hg with h | ⟨_, h1, b0, k0, q0, h2, h3, h4⟩
     · cases h
     · have h3 : (Hs i).tr.get b0 = some q0 := h3
       refine ⟨by rw [← F.ban i (by omega)]; exact ban_sub h1, ?_⟩
       rcases I.new b0 k0 (near_inv h2).2 with g1 | ⟨_, p, g1, g2⟩
       · obtain ⟨p, g2⟩ := hb0 b0 k0 g1
         exact ⟨b0, k0, p, g1, g2, ((F.alike (Nat.zero_le _) (by omega) g2 h3).1).trans h4⟩
       · have e1 := (F.alike (by omega) (Nat.le_refl _) h3 g1).1
         rw [← e1, h4] at g2
         rcases g2 with ⟨g2, _⟩ | ⟨b2, k2, q2, g3, g4, g5, _⟩
         · have := (F.wf 0 (by omega)).od
           omega
         · exact ⟨b2, k2, q2, g3, g4, g5⟩
 · -- full
   rintro d (h | rfl) b hn
   · obtain ⟨k, hk⟩ := I.full d h b hn
     exact ⟨k, join_left b k hk⟩
   · obtain ⟨k, hk⟩ := hst.full b hn.1 (by rw [← hnx]; exact hn.2)
     exact ⟨k, hext1 b k hk⟩
end
end
section
open Go.RowKit
set_option linter.unusedVariables false
set_option linter.unusedSimpArgs false
variable {bs : Inhabited Base}

section
variable {P : Program} {call : FuncId → List Value → Hp → Ret} {L : List Oper} {R0 : Regs} {N : Nat} {β0 : Bij} {w0 : World}
variable {Rs : Nat → Regs} {Hs : Nat → Hp} {V : Nat → Value} {H1 : Nat → Hp} {ex : Nat → Prop} {rd : Nat → Rdd}
variable {D : Nat → Prop} {β : Bij} {a : Act} {w : World} {j : Nat} {o : Oper}
theorem rdd_enter (ban : List Nat) (H : Hp) (R : Regs) (b : List Nat) (op : Op) : rddOf (enterD ban H) R b op = rddOf H R b op := by
 cases op <;> rfl
theorem step_exec (hc : CallOk P call) (T : Trace P call L R0 Rs Hs V H1 ex rd) (F : Facts L R0 β0 Rs Hs V H1 ex) (hd : DrawOk L) (I : Inv L R0 N β0 w0 Hs V H1 ex D β a w) (h0 : Rs 0 = R0) (hw : Wide R0)
  (ho : L[j]? = some o) (hD : ¬ D j) (hr : Ready L D j) (hex : ex j) (hdst : dstOk N o.dst = true) (hb0 : ∀ b k, β0 b = some k → ∃ q, (Hs 0).tr.get b = some q)
  (K : Act → World → Prop) (Q : Exit → Act → World → Prop) (hK : ∀ β' a' w', Inv L R0 N β0 w0 Hs V H1 ex (fun i => D i ∨ i = j) β' a' w' → K a' w') : o.wp P a w K Q := by
 have hj : j < L.length := (List.getElem?_eq_some_iff.1 ho).1
 obtain ⟨_, hrdj, hran, _, _⟩ := T.exec j o ho hex
 have hsel : ∀ x, x ∈ o.op.operands.toList → evS (selR (Rs j) (namesOf L o)) x = evS (Rs j) x := fun x hx => sel_eval (hd.small j o ho) x hx
 have hran' : Ran call (opS P (selR (Rs j) (namesOf L o)) (enterD (banAt L R0 (Hs j) j) (Hs j)) o.type o.op) (V j) (H1 j) := by
  rw [opS_congr o.op hsel]; exact hran
 have hrdd : rddOf (enterD (banAt L R0 (Hs j) j) (Hs j)) (selR (Rs j) (namesOf L o)) (banAt L R0 (Hs j) j) o.op = rd j := by
  rw [rddOf_congr o.op hsel, rdd_enter, hrdj]; rfl
 have hrr := step_regs T F hd I h0 hw ho hD hr
 have hwrd : ∀ g, g ∈ (H1 j).wrote → (rd j).has g = true := by
  intro g hg
  have := ran_wr (P := P) (H := enterD (banAt L R0 (Hs j) j) (Hs j)) hrr o rfl hran' (fun g hg => (F.wr j hj hex g hg).2) g hg
  rw [← hrdd]; exact this
 refine ran_does hc (enter_WF (F.wf j (by omega)) _) (step_HR T F hd I ho) hrr o (fun g hg hb => ?_) hran' K Q (fun β' v' w' hst hv hor hwf => ?_)
 · have hg' : (rd j).has g = true := by rw [← hrdd]; exact hg
   exact step_allowed T F hd I ho hD hr hex hg' hb
 · exact hK _ _ _ (step_inv T F hd I ho hD hr hex hdst hwrd hb0 hst hv hor)

theorem step_skip (T : Trace P call L R0 Rs Hs V H1 ex rd) (F : Facts L R0 β0 Rs Hs V H1 ex) (hd : DrawOk L) (I : Inv L R0 N β0 w0 Hs V H1 ex D β a w)
  (ho : L[j]? = some o) (hD : ¬ D j) (hr : Ready L D j) (hex : ¬ ex j) (hdst : dstOk N o.dst = true) :
  Inv L R0 N β0 w0 Hs V H1 ex (fun i => D i ∨ i = j) β (a.put o.dst undef) w := by
 have hj : j < L.length := (List.getElem?_eq_some_iff.1 ho).1
 obtain ⟨_, hV, _, hH⟩ := T.skip j o ho hex
 have hup : ∀ i, D i → (fun i => D i ∨ i = j) i := fun i h => .inl h
 refine { I with cl := ?_, lt := ?_, rec_ := ?_, root := ?_, row := ?_, reg0 := ?_, reg1 := ?_, size := ?_, top := ?_, defers := ?_, wd := ?_, full := ?_ }
 · rintro i x hx (hDi | rfl) e he hb
   · exact .inl (I.cl i x hx hDi e he hb)
   · exact .inl (hr x hx e he hb)
 · rintro i (h | rfl)
   · exact I.lt i h
   · exact hj
 · intro b k hb
   obtain ⟨q, h1, h2, h3, h4⟩ := I.rec_ b k hb
   exact ⟨q, h1, h2, h3.up hup, h4.up hup⟩
 · rintro i (h | rfl) hei g hg
   · exact (I.root i h hei g hg).up hup
   · exact absurd hei hex
 · intro b k s q hb hs hq hstg hl hbn
   refine I.row b k s q hb hs hq (fun i hi ht => ?_) hl hbn
   rw [← hstg i hi ht]
   refine ⟨.inl, fun h => ?_⟩
   rcases h with h | rfl
   · exact h
   · exact absurd ht.1 hex
 · intro t ht
   rw [put_getD (ht j o (.inr rfl) ho)]
   exact I.reg0 t (fun i x hDi => ht i x (.inl hDi))
 · intro t i x hDi hx hdx hmx
   by_cases hot : o.dst = some t
   · have hij : i = j := by
      rcases hDi with hDi | hDi
      · exfalso
        have h1 := hmx j o (.inr rfl) ho hot
        have h2 : j ≠ i := fun e => by rw [← e] at hDi; exact hD hDi
        have h3 := hd.meet j i x o hx ho (by omega) (.inl ⟨t, hot, dst_named hdx⟩)
        exact hD (mask_in hd I.cl i x hx (fun o' ho' => I.cl i o' ho' hDi) j h3)
      · exact hDi
     subst hij
     have htn : t < N := Nat.le_of_ble_eq_true (by rw [hot] at hdst; exact hdst)
     rw [hot, put_getD_same (Nat.lt_of_lt_of_le htn I.size), hV]
     exact VR.undef β
   · rw [put_getD hot]
     rcases hDi with hDi | rfl
     · exact I.reg1 t i x hDi hx hdx (fun i' o' hi' => hmx i' o' (.inl hi'))
     · rw [ho] at hx; cases hx; exact absurd hdx hot
 · rw [put_size]; exact I.size
 · rw [put_size]; exact I.top
 · rw [put_defers]; exact I.defers
 · rintro i (h | rfl) hei g hg hlt0
   · exact I.wd i h hei g hg hlt0
   · exact absurd hei hex
 · rintro d (h | rfl) b hn
   · exact I.full d h b hn
   · exfalso
     have h1 := hn.1; have h2 := hn.2
     rw [hH] at h2; omega

theorem start_inv (F : Facts L R0 β0 Rs Hs V H1 ex) (h0 : Rs 0 = R0) {a : Act} {w : World} (hs : S N β0 (Rs 0) (Hs 0) a w) : Inv L R0 N β0 w Hs V H1 ex (fun _ => False) β0 a w := by
 refine ⟨fun i x hx h => h.elim, fun i h => h.elim, fun b k hb => (hs.hr.dom b k hb).2.1, fun b k hb => ?_, fun i h => h.elim, fun b b' k k' q q' hb hb' hq hq' e => ?_, fun b k s q hb hsl hq hstg hl hbn => ?_,
  fun t _ => by rw [← h0]; exact hs.rr t, fun t i x h => h.elim, hs.size, hs.top, hs.defers, rfl, rfl, rfl, Nat.le_refl _, Ext.refl _, fun _ _ _ => rfl, fun b k hb => .inl hb, fun i h => h.elim, fun d h => h.elim, fun b k h => ⟨hs.hr.base b k h, (hs.hr.dom b k (hs.hr.base b k h)).1⟩, hs.hr.fix, hs.hr.apart⟩
 · obtain ⟨h1, _, q, h2, h3⟩ := hs.hr.dom b k hb
   obtain ⟨q', h4, h5, h6⟩ := F.same_mono (Nat.zero_le _) (Nat.le_refl _) h2
   refine ⟨q', h4, h5.trans h3, .inl h1, .inl ?_⟩
   have := (hs.wf.grp b q h2).2.1
   omega
 · obtain ⟨_, _, p, h2, _⟩ := hs.hr.dom b k hb
   obtain ⟨_, _, p', h3, _⟩ := hs.hr.dom b' k' hb'
   have e1 := (F.alike (Nat.zero_le _) (Nat.le_refl _) h2 hq).1
   have e2 := (F.alike (Nat.zero_le _) (Nat.le_refl _) h3 hq').1
   rw [← e1, ← e2]
   exact hs.hr.share b b' k k' p p' hb hb' h2 h3 e
 · obtain ⟨_, _, p, h2, _⟩ := hs.hr.dom b k hb
   have e1 := (F.alike (Nat.zero_le _) hsl h2 hq).1
   have hkeep := F.keep_mono (Nat.zero_le s) hsl h2 (fun i _ hi hei hgi => by
    rw [e1] at hgi
    exact (hstg i (by omega) ⟨hei, .inl hgi⟩).2 hi)
   rw [hq] at hkeep
   have e2 : q = p := Option.some.inj hkeep.1
   subst e2
   exact hs.hr.row b k q hb h2 (by rw [← hkeep.2]; exact hl) hbn

theorem Trace.quiet (T : Trace P call L R0 Rs Hs V H1 ex rd) (h0 : Rs 0 = R0) {t : Nat} (ht : ∀ (i : Nat) (o : Oper), L[i]? = some o → o.dst ≠ some t) : ∀ j, j ≤ L.length → getR (Rs j) t = getR R0 t := by
 intro j
 induction j with
 | zero => intro _; rw [h0]
 | succ j ih =>
   intro hj
   have ho := List.getElem?_eq_getElem hj
   generalize L[j] = o at ho
   rw [T.regs ho, ← ih (by omega)]
   cases hdd : o.dst with
   | none => rfl
   | some d =>
     show getR ((Rs j).set (V j) (Nat.succ d)) t = _
     unfold getR
     rw [Tr.get_set_other _ _ _ _ (by intro h; exact ht j o ho (by rw [hdd, Nat.succ.inj h]))]
theorem Facts.born (F : Facts L R0 β0 Rs Hs V H1 ex) {b : Nat} (h : (Hs 0).next ≤ b) : ∀ n, n ≤ L.length → b < (Hs n).next → ∃ d, d < n ∧ New Hs d b := by
 intro n
 induction n with
 | zero => intro _ h2; omega
 | succ n ih =>
   intro hn h2
   rcases Nat.lt_or_ge b (Hs n).next with h3 | h3
   · obtain ⟨d, h4, h5⟩ := ih (by omega) h3
     exact ⟨d, by omega, h5⟩
   · exact ⟨n, by omega, h3, h2⟩

theorem end_inv (T : Trace P call L R0 Rs Hs V H1 ex rd) (F : Facts L R0 β0 Rs Hs V H1 ex) (hd : DrawOk L) (h0 : Rs 0 = R0) (hw : Wide R0) (hN : N ≤ 1000) (I : Inv L R0 N β0 w0 Hs V H1 ex D β a w) (hall : ∀ i, i < L.length → D i) :
  S N β (Rs L.length) (Hs L.length) a w ∧ St β0 (Hs 0) w0 β (Hs L.length) w := by
 have hwf := F.wf L.length (Nat.le_refl _)
 have hban := F.ban L.length (Nat.le_refl _)
 have hrr : RR β (Rs L.length) a.tmps := by
  intro t
  by_cases hx : ∃ (i : Nat) (o : Oper), L[i]? = some o ∧ o.dst = some t
  · obtain ⟨i, o, ho, hdo⟩ := hx
    have ht := hd.small i o ho t (dst_named hdo)
    rcases T.slot h0 hw ht L.length (Nat.le_refl _) with ⟨i, x, h1, h2, h3, h4, h5⟩ | ⟨h1, h2⟩
    · rw [h4]
      exact I.reg1 t i x (hall i h1) h2 h3 (fun i' o' hDi => h5 i' o' (I.lt i' hDi))
    · exact absurd hdo (h1 i o (List.getElem?_eq_some_iff.1 ho).1 ho)
  · have hq : ∀ (i : Nat) (o : Oper), L[i]? = some o → o.dst ≠ some t := fun i o h1 h2 => hx ⟨i, o, h1, h2⟩
    rw [T.quiet h0 hq L.length (Nat.le_refl _)]
    exact I.reg0 t (fun i o _ h1 => hq i o h1)
 have hhr : HR (Ab (Hs L.length).ban) β (Hs L.length) w := by
  refine ⟨fun b k hb => ?_, fun b k q hb hq hl hA => ?_, I.share, fun b k h => (I.low b k h).1, I.fix, I.apart⟩
  · obtain ⟨q, h1, h2, _⟩ := I.rec_ b k hb
    exact ⟨(hwf.pos h1).2, I.blk b k hb, q, h1, h2⟩
  · exact I.row b k L.length q hb (Nat.le_refl _) hq (fun i hi _ => ⟨fun _ => hi, fun _ => hall i hi⟩) hl (by rw [← hban]; exact hA)
 refine ⟨⟨hwf, hhr, hrr, T.wide h0 hw _ (Nat.le_refl _), hN, I.size, I.top, I.defers⟩, ?_⟩
 refine ⟨I.os, I.tape, I.output, I.wsz, I.ext, F.next_mono (Nat.zero_le _) (Nat.le_refl _), F.old _ (Nat.le_refl _), hban, fun g hg => F.wrote_mono (Nat.zero_le _) (Nat.le_refl _) hg, I.block, fun b k hb => ?_, fun b q hq => F.same_mono (Nat.zero_le _) (Nat.le_refl _) hq, fun b q hq h1 h2 => ?_, fun g hg => ?_, fun b h1 h2 => ?_⟩
 · rcases I.new b k hb with h | ⟨h1, q', h2, h3⟩
   · exact .inl h
   · exact .inr ⟨h1, (hwf.pos h2).2, q', h2, h3⟩
 · exact F.keep_mono (Nat.zero_le _) (Nat.le_refl _) hq (fun i _ hi hei hgi => h2 (F.wrote_mono (i := i + 1) (by omega) (Nat.le_refl _) (F.wrote i hi hei _ hgi h1)))
 · rcases F.came_from (Nat.le_refl _) hg with h | ⟨i, h1, h2, h3, h4⟩
   · exact .inl h
   · exact .inr ⟨h4, I.wd i (hall i h1) h2 g h3 h4⟩
 · obtain ⟨d, h3, h4⟩ := F.born h1 L.length (Nat.le_refl _) h2
   exact I.full d (hall d h3) b h4
end
end
section
open Go.RowKit
set_option linter.unusedVariables false
set_option linter.unusedSimpArgs false
variable {bs : Inhabited Base}

def Done (listed : Array Bool) (i : Nat) : Prop := listed.getD i false = true
theorem done_set {listed : Array Bool} {j : Nat} (hj : j < listed.size) : (fun i => Done listed i ∨ i = j) = Done (listed.setIfInBounds j true) := by
 funext i
 apply propext
 unfold Done
 rw [Array.getD_eq_getD_getElem?, Array.getD_eq_getD_getElem?, Array.getElem?_setIfInBounds]
 by_cases e : j = i
 · subst e; simp [hj]
 · rw [if_neg e]
   constructor
   · rintro (h | h)
     · exact h
     · exact absurd h.symm e
   · exact .inl
theorem count_set : ∀ (l : List Bool) (j : Nat), l[j]? = some false → (l.set j true).count false + 1 = l.count false
 | [], j, h => by simp at h
 | b :: l, 0, h => by
   simp at h; subst h
   simp
 | b :: l, j + 1, h => by
   have := count_set l j (by simpa using h)
   simp only [List.set_cons_succ, List.count_cons]
   omega

section
variable {P : Program} {call : FuncId → List Value → Hp → Ret} {R0 : Regs} {N : Nat} {β0 : Bij} {w0 : World} {ops : Array Oper}
variable {Rs : Nat → Regs} {Hs : Nat → Hp} {V : Nat → Value} {H1 : Nat → Hp} {ex : Nat → Prop} {rd : Nat → Rdd}
theorem opsOk_dst {N : Nat} : ∀ (l : List Oper), opsOk N l = true → ∀ (j : Nat) (o : Oper), l[j]? = some o → dstOk N o.dst = true := by
 intro l
 induction l with
 | nil => intro _ j o h; simp at h
 | cons x l ih =>
   intro h j o ho
   have h' : cond (dstOk N x.dst) (opsOk N l) false = true := h
   cases hx : dstOk N x.dst with
   | false => rw [hx] at h'; cases h'
   | true =>
     rw [hx] at h'
     cases j with
     | zero => simp at ho; subst ho; exact hx
     | succ j => exact ih h' j o (by simpa using ho)
theorem ready_iff {listed : Array Bool} (hs : listed.size = ops.toList.length) {j : Nat} : j ∈ Region.ready .any ops listed ↔ j < ops.toList.length ∧ ¬ Done listed j ∧ Ready ops.toList (Done listed) j := by
 unfold Region.ready
 rw [List.mem_filter, List.mem_range]
 have hsz : ops.size = ops.toList.length := by simp
 constructor
 · rintro ⟨h1, h2⟩
   obtain ⟨h2, h3⟩ := and_split h2
   have hj : j < ops.toList.length := by omega
   refine ⟨hj, ?_, ?_⟩
   · unfold Done
     intro h4
     rw [Array.getD_eq_getD_getElem?] at h2 h4
     have : listed[j]? = some listed[j] := Array.getElem?_eq_getElem (by omega)
     rw [this] at h2 h4
     simp at h2 h4
     rw [h4] at h2; cases h2
   · intro o ho e he hb
     have ho' : ops[j]? = some o := by rw [← ho]; simp
     rw [ho'] at h3
     simp only [Option.map_some, Option.getD_some] at h3
     rw [← Array.all_toList, List.all_eq_true] at h3
     have := h3 e he
     rw [hb] at this
     simpa [Done] using this
 · rintro ⟨h1, h2, h3⟩
   refine ⟨by omega, ?_⟩
   have ho := List.getElem?_eq_getElem h1
   generalize ops.toList[j] = o at ho
   have ho' : ops[j]? = some o := by rw [← ho]; simp
   rw [ho']
   simp only [Option.map_some, Option.getD_some, Bool.and_eq_true]
   constructor
   · unfold Done at h2
     rw [Array.getD_eq_getD_getElem?] at h2 ⊢
     have : listed[j]? = some listed[j] := Array.getElem?_eq_getElem (by omega)
     rw [this] at h2 ⊢
     simpa using h2
   · rw [← Array.all_toList, List.all_eq_true]
     intro e he
     cases hb : Region.binds .any e with
     | false => rfl
     | true =>
       have := h3 o ho e he hb
       simpa [Done] using this
theorem ready_nil (hd : DrawOk ops.toList) {listed : Array Bool} (hs : listed.size = ops.toList.length) (h : Region.ready .any ops listed = []) : ∀ i, i < ops.toList.length → Done listed i := by
 intro i
 induction i using Nat.strongRecOn with
 | ind i ih =>
   intro hi
   by_cases hD : Done listed i
   · exact hD
   · exfalso
     have : i ∈ Region.ready .any ops listed := (ready_iff hs).2 ⟨hi, hD, fun o ho e he hb => ih e.on (hd.back i o ho e he hb) (by have := hd.back i o ho e he hb; omega)⟩
     rw [h] at this; cases this

theorem any_sound (hc : CallOk P call) (T : Trace P call ops.toList R0 Rs Hs V H1 ex rd) (F : Facts ops.toList R0 β0 Rs Hs V H1 ex) (hd : DrawOk ops.toList) (h0 : Rs 0 = R0) (hw : Wide R0) (hN : N ≤ 1000) (hok : opsOk N ops.toList = true)
  (hb0 : ∀ b k, β0 b = some k → ∃ q, (Hs 0).tr.get b = some q) (Q : Exit → Act → World → Prop)
  (hQ : ∀ β a w, S N β (Rs ops.toList.length) (Hs ops.toList.length) a w → St β0 (Hs 0) w0 β (Hs ops.toList.length) w → Q .normal a w) :
  ∀ (fuel : Nat) (listed : Array Bool) (β : Bij) (a : Act) (w : World), listed.size = ops.toList.length → listed.toList.count false ≤ fuel → Inv ops.toList R0 N β0 w0 Hs V H1 ex (Done listed) β a w → wpAny P .any ops Q fuel listed a w := by
 have fin : ∀ (listed : Array Bool) (β : Bij) (a : Act) (w : World), listed.size = ops.toList.length → Inv ops.toList R0 N β0 w0 Hs V H1 ex (Done listed) β a w → Region.ready .any ops listed = [] → Q .normal a w := by
  intro listed β a w hsz I h
  obtain ⟨h1, h2⟩ := end_inv T F hd h0 hw hN I (ready_nil hd hsz h)
  exact hQ β a w h1 h2
 intro fuel
 induction fuel with
 | zero =>
   intro listed β a w hsz hcn I
   have hr : Region.ready .any ops listed = [] := by
    apply List.eq_nil_iff_forall_not_mem.2
    intro j hj
    obtain ⟨h1, h2, _⟩ := (ready_iff hsz).1 hj
    have h3 : listed.toList.count false = 0 := by omega
    rw [List.count_eq_zero] at h3
    apply h3
    have h4 : listed[j]? = some listed[j] := Array.getElem?_eq_getElem (by omega)
    have h5 : listed[j] = false := by
     unfold Done at h2
     rw [Array.getD_eq_getD_getElem?, h4] at h2
     simpa using h2
    rw [h5] at h4
    exact Array.mem_toList_iff.2 (Array.mem_of_getElem? h4)
   exact ⟨hr, fin listed β a w hsz I hr⟩
 | succ fuel ih =>
   intro listed β a w hsz hcn I
   refine ⟨fin listed β a w hsz I, fun j hj => ?_⟩
   obtain ⟨h1, hD, hr⟩ := (ready_iff hsz).1 hj
   have ho := List.getElem?_eq_getElem h1
   generalize ops.toList[j] = o at ho
   have ho' : ops[j]? = some o := by rw [← ho]; simp
   have hdst := opsOk_dst _ hok j o ho
   have hcount : (listed.setIfInBounds j true).toList.count false ≤ fuel := by
    have h4 : listed[j]? = some listed[j] := Array.getElem?_eq_getElem (by omega)
    have h5 : listed[j] = false := by
     unfold Done at hD
     rw [Array.getD_eq_getD_getElem?, h4] at hD
     simpa using hD
    have h6 : listed.toList[j]? = some false := by
     rw [Array.getElem?_toList, h4, h5]
    have h7 := count_set listed.toList j h6
    have h8 : (listed.setIfInBounds j true).toList = listed.toList.set j true := by simp
    rw [h8]; omega
   have hnext : ∀ β' a' w', Inv ops.toList R0 N β0 w0 Hs V H1 ex (fun i => Done listed i ∨ i = j) β' a' w' → wpAny P .any ops Q fuel (listed.setIfInBounds j true) a' w' := by
    intro β' a' w' I'
    rw [done_set (by omega)] at I'
    exact ih _ β' a' w' (by simpa using hsz) hcount I'
   unfold wpOp
   rw [ho']
   by_cases hex : ex j
   · have hwt := step_wanted T F hd I h0 hw rfl ho hD hr (T.exec j o ho hex).1
     simp only
     rw [hwt, if_pos rfl]
     exact .inl (step_exec hc T F hd I h0 hw ho hD hr hex hdst hb0 _ Q hnext)
   · have hwt := step_wanted T F hd I h0 hw rfl ho hD hr (T.skip j o ho hex).1
     simp only
     rw [hwt, if_neg (by simp)]
     exact hnext _ _ _ (step_skip T F hd I ho hD hr hex hdst)

theorem S.drew {β : Bij} {R : Regs} {H : Hp} {a : Act} {w : World} (h : S N β R H a w) (n : Nat) : S N β R H a { w with drawn := n } :=
 ⟨h.wf, h.hr.world (Nat.le_refl _) (fun _ _ _ => rfl) (fun _ _ _ => rfl), h.rr, h.wide, h.most, h.size, h.top, h.defers⟩
theorem bansF_eq (ops : List Oper) (H : Hp) (R0 : Regs) (j : Nat) (base : List Nat) : ∀ (l : List Oper) (i : Nat), bansF ops H R0 j base (storesL l i) = bansS ops H R0 j base l i := by
 intro l
 induction l with
 | nil => intro i; rfl
 | cons o r ih =>
   intro i
   have e : bansS ops H R0 j base (o :: r) i = (match storeAt H R0 o.op with
    | some b => cond (Nat.beq i j || ordB ops i j) (bansS ops H R0 j base r (Nat.succ i)) (b :: bansS ops H R0 j base r (Nat.succ i))
    | none => bansS ops H R0 j base r (Nat.succ i)) := rfl
   rw [e, ← ih]
   have e2 : storesL (o :: r) i = (match o.op with
    | .store _ a _ => (i, a) :: storesL r (Nat.succ i)
    | _ => storesL r (Nat.succ i)) := rfl
   rw [e2]
   cases o.op <;> rfl
theorem nilN_eq {l : List Nat} (h : nilN l = true) : l = [] := by cases l with | nil => rfl | cons x r => cases h
theorem quietR_eq {r : Rdd} (h : quietR r = true) : r = .none := by cases r <;> first | rfl | cases h
theorem noneIn_none (l : List Nat) : noneIn l .none = true := by
 induction l with
 | nil => rfl
 | cons x r ih => exact ih
theorem apartL_eq (ops : List Oper) (j : Nat) (rd : Rdd) (wr : List Nat) (l : List Seen) : apartL ops j rd wr l = apartS ops j rd wr l := by
 induction l with
 | nil => rfl
 | cons s r ih =>
   show cond ((noneIn s.wr rd && noneIn wr s.rd) || ordB ops s.at_ j) (apartL ops j rd wr r) false = cond (ordB ops s.at_ j || (noneIn s.wr rd && noneIn wr s.rd)) (apartS ops j rd wr r) false
   rw [ih, Bool.or_comm]
theorem apart_quiet (ops : List Oper) (j : Nat) (l : List Seen) : apartS ops j .none [] l = true := by
 induction l with
 | nil => rfl
 | cons s r ih =>
   show cond (ordB ops s.at_ j || (noneIn s.wr .none && true)) (apartS ops j .none [] r) false = true
   rw [noneIn_none, ih]
   cases ordB ops s.at_ j <;> rfl
theorem drawF_eq (call : FuncId → List Value → Hp → Ret) (ops : List Oper) (R0 : Regs) : ∀ (l : List Oper) (j : Nat) (sn' sn : List Seen) (R : Regs) (H : Hp), (∀ j rd wr, apartS ops j rd wr sn' = apartS ops j rd wr sn) →
  drawF P call ops (storesL ops 0) R0 l j sn' R H = drawS P call ops R0 l j sn R H := by
 intro l
 induction l with
 | nil => intro j sn' sn R H _; rfl
 | cons o r ih =>
   intro j sn' sn R H hsn
   have e1 : drawF P call ops (storesL ops 0) R0 (o :: r) j sn' R H = wantS (drawF1 P call ops o (drawF P call ops (storesL ops 0) R0 r (Nat.succ j)) j sn' R H (bansF ops H R0 j H.ban (storesL ops 0))) (drawF P call ops (storesL ops 0) R0 r (Nat.succ j) sn' (putR R undefS o.dst) H) (wantedS ops R o.guard) := rfl
   have e2 : drawS P call ops R0 (o :: r) j sn R H = wantS (nextS call (fun v H' => drawNext ops (rddOf H R (bansS ops H R0 j H.ban ops 0) o.op) o j sn H (fun sn v H => drawS P call ops R0 r (Nat.succ j) sn (putR R v o.dst) H) v H') o.pos (opS P R (enterD (bansS ops H R0 j H.ban ops 0) H) o.type o.op))
    (drawS P call ops R0 r (Nat.succ j) sn (putR R undefS o.dst) H) (wantedS ops R o.guard) := rfl
   rw [e1, e2, bansF_eq, ih (Nat.succ j) sn' sn _ _ hsn]
   congr 1
   unfold drawF1
   congr 1
   funext v H'
   generalize rddOf H R (bansS ops H R0 j H.ban ops 0) o.op = rd
   unfold drawNextF drawNext
   cases hq : (quietR rd && nilN H'.wrote) with
   | true =>
     obtain ⟨h1, h2⟩ := and_split hq
     have h1 := quietR_eq h1
     have h2 := nilN_eq h2
     rw [h1, h2, apart_quiet, cond_t, cond_t]
     refine ih (Nat.succ j) sn' _ _ _ (fun j' rd' wr' => ?_)
     show apartS ops j' rd' wr' sn' = cond (ordB ops j j' || (true && noneIn wr' .none)) (apartS ops j' rd' wr' sn) false
     rw [noneIn_none, hsn]
     cases ordB ops j j' <;> rfl
   | false =>
     rw [cond_f, apartL_eq, hsn]
     congr 1
     refine ih (Nat.succ j) _ _ _ _ (fun j' rd' wr' => ?_)
     show cond (ordB ops j j' || (noneIn H'.wrote rd' && noneIn wr' rd)) (apartS ops j' rd' wr' sn') false = cond (ordB ops j j' || (noneIn H'.wrote rd' && noneIn wr' rd)) (apartS ops j' rd' wr' sn) false
     rw [hsn]
theorem region_ok (hm : P.follows .mixedOrders = true) (hc : CallOk P call) : RegionOk P call := by
 intro N id ops R H e R' H' draw hrun hok β a w hs
 cases draw with
 | false => exact region_plain hc hrun hok hs
 | true =>
   have hrun0 : cond (drawOk ops.toList) (drawF P call ops.toList (storesL ops.toList 0) R ops.toList 0 [] R H) (.bad 90 []) = .ok e R' H' := hrun
   have hrun' : cond (drawOk ops.toList) (drawS P call ops.toList R ops.toList 0 [] R H) (.bad 90 []) = .ok e R' H' := by
    rw [← drawF_eq call ops.toList R ops.toList 0 [] [] R H (fun j rd wr => rfl)]; exact hrun0
   rcases cond_split hrun' with ⟨hdr, hrun2⟩ | ⟨_, h⟩
   · have hd := drawOk_spec hdr
     obtain ⟨rfl, Rs, Hs, V, H1, ex, rd, a1, a2, a3, a4, a5, a6, a7, a8⟩ := trace_of (P := P) (call := call) (L := ops.toList) (R0 := R) ops.toList 0 [] R H e R' H' rfl hrun2
     have T : Trace P call ops.toList R Rs Hs V H1 ex rd := ⟨fun j o ho hx => a5 j o (Nat.zero_le _) ho hx, fun j o ho hx => a6 j o (Nat.zero_le _) ho hx, fun i j hij hj hei hej => a7 i j (Nat.zero_le _) hij (by omega) hei hej⟩
     have hs0 : S N β (Rs 0) (Hs 0) a w := by rw [a1, a2]; exact hs
     have F := facts hc T hok hs0
     rw [Nat.zero_add] at a3 a4
     refine wp_region_any hm ?_
     have hI := start_inv F a1 (hs0.drew (w.drawn + 1))
     have hD0 : (fun _ : Nat => False) = Done (Array.replicate ops.size false) := by
      funext i
      apply propext
      unfold Done
      rw [Array.getD_eq_getD_getElem?, Array.getElem?_replicate]
      constructor
      · exact False.elim
      · intro h; split at h <;> simp at h
     rw [hD0] at hI
     refine any_sound hc T F hd a1 hs.wide hs.most hok (fun b k hb => let ⟨_, _, q, hq, _⟩ := hs0.hr.dom b k hb; ⟨q, hq⟩) _ (fun β' a' w' h1 h2 => ?_) ops.size _ β a _ (by simp) (by simp) hI
     rw [a3, a4] at h1
     rw [a4, a2] at h2
     exact ⟨trivial, β', ⟨h2.os, h2.tape, h2.output, h2.size, h2.ext, h2.next, h2.old, h2.ban, h2.wrote, h2.block, h2.new, h2.same, h2.keep, h2.wdom, h2.full⟩, h1⟩
   · cases h
end
end
section
open Go.RowKit
set_option linter.unusedVariables false
set_option linter.unusedSimpArgs false
variable {bs : Inhabited Base}
noncomputable section

/-- of this group nothing may be read any more -/
def Hp.shutG (H : Hp) (q : Blk) : Hp := ⟨H.tr, H.next, H.grp.set (H.newest q, H.next) q.grp, H.old, wroteS H q.grp, H.ban⟩
def ckB (T : TypeId) (H : Hp) (b : Nat) (q : Blk) : List Value → Ret
 | [.pointer none, v] => cond (Nat.beq q.elem T && Nat.beq (H.newest q) b) (.ok (.tuple #[]) (H.write b q [.pointer (some ⟨b, 0, none⟩), v])) (.bad 120 [])
 | [.pointer (some ⟨b', 0, none⟩), v] => cond (Nat.beq q.elem T && Nat.beq b b') (.ok (.tuple #[]) H) (.bad 121 [])
 | _ => .bad 122 []
/-- copyCheck -/
def ckS (T : TypeId) (args : List Value) (H : Hp) : Ret := match args with
 | [.pointer (some ⟨b, 0, none⟩)] => match H.read b with
   | some q => ckB T H b q q.cells
   | none => .bad 123 []
 | _ => .bad 124 []
def strC (U : TypeId) (H : Hp) (n : Nat) : Option Blk → Ret
 | some r => match (cellsAt r 0 n).bind bytesL with
   | some bs => cond (Nat.beq r.elem U && Nat.ble 1 n) (.ok (.string ⟨bs.toArray⟩) (H.shutG r)) (.bad 125 [])
   | none => .bad 126 []
 | none => .bad 127 []
def strB (T U : TypeId) (H : Hp) (q : Blk) : List Value → Ret
 | [p, .slice (some ⟨g, 0, none⟩) n _] => cond (Nat.beq q.elem T) (strC U H n (H.read g)) (.bad 128 [])
 | _ => .bad 129 []
/-- String -/
def strS (T U : TypeId) (args : List Value) (H : Hp) : Ret := match args with
 | [.pointer (some ⟨b, 0, none⟩)] => match H.read b with
   | some q => strB T U H q q.cells
   | none => .bad 130 []
 | _ => .bad 131 []
end
section
variable {P : Program} {A : Nat → Prop} {β : Bij} {H : Hp} {w w' : World}
theorem shutG_grp (hw : WF H) {b : Nat} {q : Blk} (hq : H.tr.get b = some q) (g : Nat) : (H.shutG q).grp.get g = if g = q.grp then some (H.newest q, H.next) else H.grp.get g := by
 have hp := hw.pos hq
 have hg := hw.grp b q hq
 show (H.grp.set (H.newest q, H.next) q.grp).get g = _
 rw [Tr.get_set _ _ _ _ ((hw.inb q.grp hg.1 (by have := hw.nx; omega)).2)]
theorem shutG_newest (hw : WF H) {b : Nat} {q : Blk} (hq : H.tr.get b = some q) (q' : Blk) : (H.shutG q).newest q' = H.newest q' := by
 have e1 : (H.shutG q).newest q' = match (H.shutG q).grp.get q'.grp with | some p => p.1 | none => q'.grp := rfl
 rw [e1, shutG_grp hw hq]
 by_cases e : q'.grp = q.grp
 · rw [if_pos e]
   unfold Hp.newest
   rw [e]
 · rw [if_neg e]; rfl
theorem shutG_since (hw : WF H) {b : Nat} {q : Blk} (hq : H.tr.get b = some q) (q' : Blk) : (H.shutG q).since q' = if q'.grp = q.grp then H.next else H.since q' := by
 have e1 : (H.shutG q).since q' = match (H.shutG q).grp.get q'.grp with | some p => p.2 | none => 0 := rfl
 rw [e1, shutG_grp hw hq]
 by_cases e : q'.grp = q.grp
 · rw [if_pos e, if_pos e]
 · rw [if_neg e, if_neg e]; rfl
/-- a row that is not looked at any more may turn -/
theorem sealed (hw : WF H) (hr : HR A β H w) {b : Nat} {k : Bk} {q : Blk} (hb : β b = some k) (hq : H.tr.get b = some q) (hban : memN H.ban q.grp = false) (ho : Over0 w w' k.blk) :
  St β H w β (H.shutG q) w' ∧ HR A β (H.shutG q) w' ∧ WF (H.shutG q) := by
 have hsin := shutG_since hw hq
 have hlt : ∀ i q', H.tr.get i = some q' → i < H.next := fun i q' h => (hw.pos h).2
 have hmine : q.grp ∈ (H.shutG q).wrote ∨ H.old ≤ q.grp := by
  rcases Nat.lt_or_ge q.grp H.old with h | h
  · exact .inl (mem_wrote.2 (.inr ⟨rfl, h⟩))
  · exact .inr h
 refine ⟨⟨ho.os, ho.tape, ho.output, by rw [ho.size]; exact Nat.le_refl _, Ext.refl _, Nat.le_refl _, rfl, rfl, fun i hi => mem_wrote.2 (.inl hi), ?_, fun i k' hi => .inl hi, fun i q' hq' => ⟨q', hq', rfl, rfl⟩, ?_, ?_, fun i h1 h2 => absurd (show i < H.next from h2) (by omega)⟩, ⟨?_, ?_, ?_, hr.base, fun r o e => (ho.old r (fun e2 => by rw [e2, hr.apart b k hb] at e; cases e)).trans (hr.fix r o e), hr.apart⟩, ⟨hw.od, hw.nx, ?_, hw.none, ?_, ?_, ?_, hw.all⟩⟩
 · intro r hrs hk
   refine ho.old r (fun e => ?_)
   obtain ⟨h1, h2⟩ := hk b k q hb hq e.symm
   rcases hmine with h | h
   · exact h2 h
   · omega
 · intro i q' hq' h1 h2
   have hne : q'.grp ≠ q.grp := fun e => by
    rw [e] at h1 h2
    rcases hmine with h | h
    · exact h2 h
    · omega
   exact ⟨hq', by rw [hsin, if_neg hne]⟩
 · intro g hg
   rcases mem_wrote.1 hg with h | ⟨rfl, h⟩
   · exact .inl h
   · exact .inr ⟨h, hban, b, k, q, hb, hq, rfl⟩
 · intro i k' hi
   obtain ⟨h1, h2, h3⟩ := hr.dom i k' hi
   exact ⟨h1, by rw [ho.size]; exact h2, h3⟩
 · intro i k' q' hi hq' hl ha
   rw [hsin] at hl
   by_cases e : q'.grp = q.grp
   · rw [if_pos e] at hl
     have := hlt i q' hq'
     omega
   · rw [if_neg e] at hl
     exact (hr.row i k' q' hi hq' hl ha).mono (Ext.refl _) (ho.old _ (fun e' => e (hr.share i b k' k q' q hi hb hq' hq e')))
 · exact hr.share
 · intro i h1 h2
   have := hw.inb i h1 h2
   refine ⟨this.1, ?_⟩
   show (H.grp.set _ _).inb i = true
   rw [Tr.inb_set]; exact this.2
 · intro i q1 hq1
   rw [shutG_newest hw hq]
   exact hw.grp i q1 hq1
 · intro g p hp'
   rw [shutG_grp hw hq] at hp'
   by_cases e : g = q.grp
   · rw [if_pos e] at hp'
     cases hp'
     have h1 := hw.grp b q hq
     have h2 := hlt b q hq
     have h3 : H.newest q < H.next := by
      unfold Hp.newest
      cases h : H.grp.get q.grp with
      | none => show q.grp < H.next; omega
      | some p => exact (hw.new _ p h).1
     refine ⟨h3, ?_⟩
     show _ < H.next
     omega
   · rw [if_neg e] at hp'; exact hw.new g p hp'
 · intro i i' q1 q2 hq1 hq2 hg hii hl
   rw [hsin] at hl
   by_cases e : q1.grp = q.grp
   · rw [if_pos e] at hl
     have := hlt i q1 hq1
     omega
   · rw [if_neg e] at hl
     exact hw.mono i i' q1 q2 hq1 hq2 hg hii hl

/-- what a program's strings.Builder does: T its type, U that of a byte -/
structure BldOk (P : Program) (T U : TypeId) (ck st : FuncId) : Prop where
 fresh : ∀ (b : Nat) (w : World) (cs : Array Value), w.heap[b]? = some (.cells cs T (0, 0)) → 2 ≤ cs.size → cs[0]? = some (.pointer none) →
  Calls P ck #[.pointer (some ⟨b, 0, none⟩)] w fun e w' => e = .returned (.tuple #[]) ∧ w' = w.setCell ⟨b, 0, none⟩ (.pointer (some ⟨b, 0, none⟩))
 used : ∀ (b : Nat) (w : World) (cs : Array Value), w.heap[b]? = some (.cells cs T (0, 0)) → cs[0]? = some (.pointer (some ⟨b, 0, none⟩)) →
  Calls P ck #[.pointer (some ⟨b, 0, none⟩)] w fun e w' => e = .returned (.tuple #[]) ∧ w' = w
 str : ∀ (b g cap : Nat) (w : World) (cs cur : Array Value) (l : List UInt8), w.heap[b]? = some (.cells cs T (0, 0)) → cs[1]? = some (.slice (some ⟨g, 0, none⟩) l.length cap) → w.heap[g]? = some (.cells cur U (0, 0)) →
  l ≠ [] → l.length ≤ cap → cap ≤ 9223372036854775807 → (∀ (j : Nat) (x : UInt8), l[j]? = some x → cur[j]? = some (.int .u8 x.toNat)) →
  Calls P st #[.pointer (some ⟨b, 0, none⟩)] w fun e w' => e = .returned (.string ⟨l.toArray⟩) ∧ Over0 w w' g

variable {T U : TypeId} {ck st : FuncId}
theorem one_arg {x : Value} {args' : Array Value} (hl : VL β [x] args'.toList) : ∃ y, args' = #[y] ∧ VR β x y := by
 obtain ⟨y, r, e, h1, h2⟩ := hl.uncons
 obtain rfl : r = [] := by have := h2.1; simpa using this.symm
 exact ⟨y, Array.toList_inj.1 e, h1⟩
theorem ck_ok (hB : BldOk P T U ck st) {args : List Value} {v : Value} {H' : Hp} (h : ckS T args H = .ok v H') {args' : Array Value} (hw : WF H) (hr : HR (Ab H.ban) β H w) (hl : VL β args args'.toList) : Calls P ck args' w (CallPost β H w v H') := by
 unfold ckS at h
 split at h
 · rename_i b
   obtain ⟨y, rfl, hy⟩ := one_arg hl
   obtain ⟨k, hk, rfl⟩ := hy.ptr_inv (sp := none)
   split at h
   · rename_i q hq
     obtain ⟨h1, h2, h3⟩ := read_inv hq
     have hrow := hr.row b k q hk h1 h2 h3
     obtain ⟨cs, g1, g2, g3⟩ := hrow.cells (read_elem hq)
     unfold ckB at h
     split at h
     · rename_i u e
       rcases cond_split h with ⟨h4, h5⟩ | ⟨_, h5⟩
       · obtain ⟨h6, h7⟩ := and_split h4
         have h6 := of_beq h6
         have h7 := of_beq h7
         cases h5
         have e0 : q.cells[0]? = some (.pointer none) := by rw [e]; rfl
         have e1 : q.cells[1]? = some u := by rw [e]; rfl
         obtain ⟨y0, hy0, hv0⟩ := g3 0 _ e0
         obtain ⟨y1, hy1, hv1⟩ := g3 1 _ e1
         have hsz : 2 ≤ cs.size := by have := (Array.getElem?_eq_some_iff.1 hy1).1; omega
         have hv0' : y0 = .pointer none := by cases hv0; rfl
         subst hv0'
         rw [h6] at g1
         refine (hB.fresh k.blk w cs g1 hsz hy0).mono ?_
         rintro e w' ⟨rfl, rfl⟩
         have hnew : (w.setCell ⟨k.blk, 0, none⟩ (.pointer (some ⟨k.blk, 0, none⟩))).heap[k.blk]? = some (.cells (cs.setIfInBounds 0 (.pointer (some ⟨k.blk, 0, none⟩))) T (0, 0)) := by
          simp [World.setCell, Array.getElem?_modify, g1]
         obtain ⟨s1, s2, s3⟩ := stored (w' := w.setCell ⟨k.blk, 0, none⟩ (.pointer (some ⟨k.blk, 0, none⟩))) hw hr hk h1 h7 h3 (read_elem hq) [.pointer (some ⟨b, 0, none⟩), u] (cs.setIfInBounds 0 (.pointer (some ⟨k.blk, 0, none⟩))) (by simpa using g2) (by
          intro j x hx
          match j, hx with
          | 0, hx =>
            cases hx
            exact ⟨_, by rw [Array.getElem?_setIfInBounds_self_of_lt (by omega)], .ptr hk⟩
          | 1, hx =>
            cases hx
            exact ⟨y1, by rw [Array.getElem?_setIfInBounds_ne (by omega)]; exact hy1, hv1⟩
          | j + 2, hx => simp at hx) ⟨rfl, rfl, rfl, by simp [World.setCell], by rw [h6]; exact hnew, fun i hi => by simp [World.setCell, Array.getElem?_modify, Ne.symm hi]⟩
         exact ⟨β, .tuple #[], rfl, .tuple rfl (fun i x y h => by simp at h), s1, s3, s2⟩
       · cases h5
     · rename_i b' u e
       rcases cond_split h with ⟨h4, h5⟩ | ⟨_, h5⟩
       · obtain ⟨h6, h7⟩ := and_split h4
         have h6 := of_beq h6
         have h7 := of_beq h7
         cases h5
         subst h7
         have e0 : q.cells[0]? = some (.pointer (some ⟨b, 0, none⟩)) := by rw [e]; rfl
         obtain ⟨y0, hy0, hv0⟩ := g3 0 _ e0
         obtain ⟨k2, hk2, rfl⟩ := hv0.ptr_inv (sp := none)
         rw [hk] at hk2; cases hk2
         rw [h6] at g1
         refine (hB.used k.blk w cs g1 hy0).mono ?_
         rintro e w' ⟨rfl, rfl⟩
         exact ⟨β, .tuple #[], rfl, .tuple rfl (fun i x y h => by simp at h), St.refl _ _ _, hw, hr⟩
       · cases h5
     · cases h
   · cases h
 · cases h
theorem str_ok (hB : BldOk P T U ck st) {args : List Value} {v : Value} {H' : Hp} (h : strS T U args H = .ok v H') {args' : Array Value} (hw : WF H) (hr : HR (Ab H.ban) β H w) (hl : VL β args args'.toList) : Calls P st args' w (CallPost β H w v H') := by
 unfold strS at h
 split at h
 · rename_i b
   obtain ⟨y, rfl, hy⟩ := one_arg hl
   obtain ⟨k, hk, rfl⟩ := hy.ptr_inv (sp := none)
   split at h
   · rename_i q hq
     obtain ⟨h1, h2, h3⟩ := read_inv hq
     have hrow := hr.row b k q hk h1 h2 h3
     obtain ⟨cs, g1, g2, g3⟩ := hrow.cells (read_elem hq)
     unfold strB at h
     split at h
     · rename_i p g n c0 e
       rcases cond_split h with ⟨h4, h5⟩ | ⟨_, h5⟩
       · have h4 := of_beq h4
         unfold strC at h5
         split at h5
         · rename_i r hr1
           split at h5
           · rename_i bs hbs
             rcases cond_split h5 with ⟨h6, h7⟩ | ⟨_, h7⟩
             · obtain ⟨h8, h9⟩ := and_split h6
               have h8 := of_beq h8
               have h9 := of_ble h9
               cases h7
               obtain ⟨l, l1, l2⟩ := Option.bind_eq_some_iff.1 hbs
               have l2 := bytesL_mem _ _ l2
               obtain ⟨l3, l4, l5⟩ := cellsAt_eq l1
               have hbn : bs.length = n := by rw [l2] at l5; simpa using l5
               obtain ⟨i1, i2, i3⟩ := read_inv hr1
               have e1 : q.cells[1]? = some (.slice (some ⟨g, 0, none⟩) n c0) := by rw [e]; rfl
               obtain ⟨y1, hy1, hv1⟩ := g3 1 _ e1
               have hc0 : c0 = n := by cases hv1 with | atom h => cases h | slice => rfl | void => rfl
               subst hc0
               rcases hv1.slice_inv with ⟨h, _⟩ | ⟨h, _⟩ | ⟨b', off, kk, c, h, hkk, hnc, hcm, h0, rfl⟩
               · cases h
               · omega
               · cases h
                 obtain ⟨cur, w1, w2, w3⟩ := (hr.row g kk r hkk i1 i2 i3).cells (read_elem hr1)
                 rw [h4] at g1
                 rw [h8] at w1
                 have hcc : c0 = bs.length := hbn.symm
                 subst hcc
                 refine (hB.str k.blk kk.blk c w cs cur bs g1 hy1 w1 (fun e => by rw [e] at h9; simp at h9) hnc hcm (fun j x hx => ?_)).mono ?_
                 · have hxl : l[j]? = some (.int .u8 (x.toNat : Int)) := by rw [l2]; simp [hx]
                   rw [l4, List.getElem?_take] at hxl
                   split at hxl
                   · rw [List.getElem?_drop, Nat.zero_add] at hxl
                     obtain ⟨y, hy, hv⟩ := w3 j _ hxl
                     rw [hy, hv.int]
                   · cases hxl
                 · rintro e w' ⟨rfl, ho⟩
                   obtain ⟨s1, s2, s3⟩ := sealed hw hr hkk i1 i3 ho
                   exact ⟨β, _, rfl, .atom rfl, s1, s3, s2⟩
             · cases h7
           · cases h5
         · cases h5
       · cases h5
     · cases h
   · cases h
 · cases h
end
end
section
open Go.RowKit
set_option linter.unusedVariables false
set_option linter.unusedSimpArgs false
variable {bs : Inhabited Base}
noncomputable section
/-- the rest of a function's code, from some slots on -/
def sufS (P : Program) (X : XF) (n : Nat) (fn : Func) (c : Code) (R : Regs) (H : Hp) : Ret := endS' P fn (codeS P X n c R H)
/-- statements passed by -/
def dropC (n : Nat) (c : Code) : Code :=
 Nat.rec (motive := fun _ => Code → Code) (fun c => c) (fun _ g c => match c with | .seq _ b => g b | c => c) n c
/-- some slots, nothing known of the others -/
def slotS (l : List (Nat × Value)) : Regs := List.rec (motive := fun _ => Regs) unkT (fun p _ T => T.set p.2 (Nat.succ p.1)) l
end
section
variable {P : Program}
theorem slot_wide : ∀ l, Wide (slotS l)
 | [] => sel_wide (Tr.nil) []
 | p :: r => fun j hj => by
   show ((slotS r).set p.2 (Nat.succ p.1)).inb (j + 1) = true
   rw [Tr.inb_set]; exact slot_wide r j hj
theorem slot_RR {β : Bij} {tmps : Array Value} (hs : tmps.size ≤ 1000) : ∀ (l : List (Nat × Value)), (∀ p, p ∈ l → p.1 < 1000 ∧ VR β p.2 (tmps.getD p.1 undef)) → RR β (slotS l) tmps
 | [], _ => sel_RR (R := Tr.nil) hs [] (fun t h => by cases h)
 | p :: r, h => by
   intro t
   show VR β (getR ((slotS r).set p.2 (Nat.succ p.1)) t) _
   have hp := h p (List.mem_cons_self ..)
   rw [getR_set _ _ _ _ (slot_wide r p.1 hp.1)]
   by_cases e : t = p.1
   · subst e; rw [if_pos rfl]; exact hp.2
   · rw [if_neg e]; exact slot_RR hs r (fun q hq => h q (List.mem_cons_of_mem _ hq)) t
theorem suffix_fin {fn : Func} {v : Value} {H' : Hp} {N : Nat} {β : Bij} {H : Hp} {w : World} {e0 : Ex} {R1 : Regs} {H1 : Hp} (hrun : endS' P fn (.ok e0 R1 H1) = .ok v H')
  {e : Exit} {a : Act} {w' : World} (he : ExR e0 e) {β' : Bij} (hst : St β H w β' H1 w') (hs : S N β' R1 H1 a w') :
  bodyPost P fn (CallPost β H w v H') e a w' := by
 have fin : retL H1 (ressS P R1 H1 fn.results.toList) = .ok v H' → a.defers = [] ∧ ∃ u, (results fn a.tmps).run P w' = .ok u w' ∧ CallPost β H w v H' (.returned u) w' := by
  intro hret
  obtain ⟨rfl, u, hu, hrunr⟩ := results_run (P := P) hs.hr (fun b hb => hb) hs.rr fn hret
  exact ⟨hs.defers, u, hrunr, β', u, rfl, hu, hst, hs.wf, by rw [← hst.ban]; exact hs.hr⟩
 cases e0 with
 | normal => cases e <;> first | exact he.elim | exact fin hrun
 | ret => cases e <;> first | exact he.elim | exact fin hrun
 | exit i => cases hrun
theorem suffix_ok {X : XF} (hX : XOk P X) (hreg : ∀ call, CallOk P call → RegionOk P call) {fn : Func} {n : Nat} {c1 c2 : Code} {R : Regs} {H : Hp} {v : Value} {H' : Hp}
  (hrun : sufS P X (n + 1) fn (.seq c1 c2) R H = .ok v H') (hok : codeOk fn.ntmps (.seq c1 c2) = true) {β : Bij} {a : Act} {w : World} (hs : S fn.ntmps β R H a w)
  {Q : Exit → Act → World → Prop} {K : Act → World → Prop} (hk : ∀ a w, Code.wp P c2 Q a w → K a w)
  (hQ : ∀ e a' w', bodyPost P fn (CallPost β H w v H') e a' w' → Q e a' w') : Code.wp P c1 (Exit.then K Q) a w := by
 obtain ⟨h1, h2⟩ := codeOk_seq hok
 have hcode := code_sound hX hreg n
 have hrun' : endS' P fn (seqS (codeS P X n c2) (codeS P X n c1 R H)) = .ok v H' := hrun
 cases hx : codeS P X n c1 R H with
 | bad k l => rw [hx] at hrun'; cases hrun'
 | ok e1 R1 H1 =>
   rw [hx] at hrun'
   refine wp_mono (hcode fn.ntmps c1 R H e1 R1 H1 hx h1 β a w hs) ?_
   rintro e2 a2 w2 ⟨he, β2, h3, h4⟩
   cases e1 with
   | normal =>
     cases e2 <;> first | exact he.elim | skip
     have hrun2 : endS' P fn (codeS P X n c2 R1 H1) = .ok v H' := hrun'
     refine hk a2 w2 ?_
     cases hy : codeS P X n c2 R1 H1 with
     | bad k l => rw [hy] at hrun2; cases hrun2
     | ok e3 R3 H3 =>
       rw [hy] at hrun2
       refine wp_mono (hcode fn.ntmps c2 R1 H1 e3 R3 H3 hy h2 β2 a2 w2 h4) ?_
       rintro e4 a4 w4 ⟨he4, β4, h5, h6⟩
       exact hQ e4 a4 w4 (suffix_fin hrun2 he4 (St.tr hs.hr h4.hr hs.wf h3 h5) h6)
   | exit i => cases hrun'
   | ret =>
     have hrun2 : endS' P fn (.ok .ret R1 H1) = .ok v H' := hrun'
     cases e2 <;> first | exact he.elim | skip
     exact hQ _ a2 w2 (suffix_fin hrun2 (e := .ret) trivial h3 h4)
end
end
section
open Go.RowKit

theorem mixed : Tryd.prog.follows .mixedOrders = true := by kernel_rfl
def okT : Ret → Bool
 | .ok (.bool true) _ => true
 | _ => false
theorem okT_inv {r : Ret} (h : okT r = true) : ∃ H, r = .ok (.bool true) H := by
 unfold okT at h
 split at h
 · exact ⟨_, rfl⟩
 · cases h
/-- a run without arguments that tells true -/
theorem run_true (n : Nat) (f : FuncId) (h : okT (callF Tryd.prog n f [] Hp.none) = true) (w : World) : Calls Tryd.prog f #[] w fun e w' => e = .returned (.bool true) ∧ Below w.heap.size w w' := by
 obtain ⟨H, h1⟩ := okT_inv h
 letI : Inhabited Base := ⟨⟨fun _ => none, fun _ => none⟩⟩
 exact run_sound (fun _ => rfl) (fun _ => rfl) XOk.none (fun call hc => region_ok mixed hc) n f [] (fun x hx => by cases hx) (.bool true) H rfl h1 w
end
section
open Go.RowKit
set_option linter.unusedVariables false
set_option linter.unusedSimpArgs false
noncomputable section
/-- does a text begin so -/
def preL (p : List UInt8) : List UInt8 → Bool :=
 List.rec (motive := fun _ => List UInt8 → Bool) (fun _ => true)
  (fun x _ g m => List.casesOn (motive := fun _ => Bool) m false (fun y r => cond (Nat.beq x.toNat y.toNat) (g r) false)) p
/-- the first place of a text that is not empty -/
def idxL (sub s : List UInt8) : Nat → Option Nat :=
 List.rec (motive := fun _ => Nat → Option Nat) (fun _ => none) (fun b r g i => cond (preL sub (b :: r)) (some i) (g (Nat.succ i))) s
def shortB (s : List UInt8) : Bool := Nat.ble (lenL s) 1000000
def placeR (H : Hp) : Option Nat → Ret
 | some i => .ok (.int .i64 (.ofNat i)) H
 | none => .ok (.int .i64 (.negSucc 0)) H
def placeS (args : List Value) (H : Hp) : Ret := match args with
 | [.string s, .string sep] => cond (Nat.ble 1 (lenL sep.data.toList) && shortB s.data.toList) (placeR H (idxL sep.data.toList s.data.toList 0)) (.bad 162 [])
 | _ => .bad 163 []
/-- digits alone -/
def decG (l : List UInt8) : Nat → Option Nat :=
 List.rec (motive := fun _ => Nat → Option Nat) (fun n => some n) (fun b _ g n => cond (Nat.ble 48 b.toNat && Nat.ble b.toNat 57) (forceN (Nat.add (Nat.mul n 10) (Nat.sub b.toNat 48)) g) none) l
def atoiR (H : Hp) : Option Nat → Ret
 | some n => cond (Nat.ble n 999999) (.ok (.tuple #[.int .i64 (.ofNat n), .nilIface]) H) (.bad 173 [])
 | none => .bad 167 []
def atoiS (args : List Value) (H : Hp) : Ret := match args with
 | [.string s] => cond (Nat.ble 1 (lenL s.data.toList) && Nat.ble (lenL s.data.toList) 18) (atoiR H (decG s.data.toList 0)) (.bad 168 [])
 | _ => .bad 169 []
def preS (args : List Value) (H : Hp) : Ret := match args with
 | [.string s, .string p] => .ok (.bool (preL p.data.toList s.data.toList)) H
 | _ => .bad 170 []
/-- the first place of a byte -/
def ixbL (c : Nat) (s : List UInt8) : Nat → Option Nat :=
 List.rec (motive := fun _ => Nat → Option Nat) (fun _ => none) (fun b _ g i => cond (Nat.beq b.toNat c) (some i) (g (Nat.succ i))) s
def ixbS (args : List Value) (H : Hp) : Ret := match args with
 | [.string s, .int .u8 (.ofNat c)] => cond (Nat.ble c 255) (placeR H (ixbL c s.data.toList 0)) (.bad 171 [])
 | _ => .bad 172 []
def XL : XF := fun f =>
 cond (Nat.beq f 58) (some placeS) (cond (Nat.beq f 106) (some ixbS) (cond (Nat.beq f 105) (some preS) (cond (Nat.beq f 111) (some atoiS) none)))
end
theorem preL_eq : ∀ (p s : List UInt8), preL p s = p.isPrefixOf s
 | [], s => by cases s <;> rfl
 | x :: p, [] => rfl
 | x :: p, y :: s => by
   show cond (Nat.beq x.toNat y.toNat) (preL p s) false = (x == y && p.isPrefixOf s)
   rw [preL_eq p s]
   by_cases h : x = y
   · subst h
     rw [Nat.beq_refl, cond_t]; simp
   · have h1 : Nat.beq x.toNat y.toNat = false := by
      cases e : Nat.beq x.toNat y.toNat with
      | false => rfl
      | true => exact absurd (UInt8.toNat_inj.1 (Nat.eq_of_beq_eq_true e)) h
     have h2 : (x == y) = false := by simpa using h
     rw [h1, h2]; rfl
theorem idxL_eq (sub : List UInt8) (hs : sub ≠ []) : ∀ (s : List UInt8) (i : Nat), idxL sub s i = if Lib.index s sub = -1 then none else some (i + (Lib.index s sub).toNat)
 | [], i => by
   have : Lib.index [] sub = -1 := by
    unfold Lib.index
    cases sub with
    | nil => exact absurd rfl hs
    | cons a r => rfl
   rw [if_pos this]; rfl
 | b :: l, i => by
   show cond (preL sub (b :: l)) (some i) (idxL sub l (Nat.succ i)) = _
   rw [preL_eq, idxL_eq sub hs l (Nat.succ i)]
   have hge := Lib.index_ge l sub
   have he : Lib.index (b :: l) sub = if sub.isPrefixOf (b :: l) then 0 else if Lib.index l sub == -1 then -1 else Lib.index l sub + 1 := by rw [Lib.index]
   cases hp : sub.isPrefixOf (b :: l) with
   | true =>
     have : Lib.index (b :: l) sub = 0 := by rw [he, if_pos hp]
     rw [this]; rfl
   | false =>
     show (if Lib.index l sub = -1 then none else some (Nat.succ i + (Lib.index l sub).toNat)) = _
     by_cases h1 : Lib.index l sub = -1
     · have : Lib.index (b :: l) sub = -1 := by rw [he, hp]; simp [h1]
       rw [if_pos h1, if_pos this]
     · have : Lib.index (b :: l) sub = Lib.index l sub + 1 := by rw [he, hp]; simp [h1]
       rw [if_neg h1, this, if_neg (by omega)]
       congr 1
       omega
theorem ixbL_eq (c : Nat) (hc : c ≤ 255) : ∀ (s : List UInt8) (i : Nat), ixbL c s i = if Lib.indexByte s c.toUInt8 = -1 then none else some (i + (Lib.indexByte s c.toUInt8).toNat)
 | [], i => by rfl
 | b :: l, i => by
   show cond (Nat.beq b.toNat c) (some i) (ixbL c l (Nat.succ i)) = _
   rw [ixbL_eq c hc l (Nat.succ i)]
   have hge := Lib.indexByte_ge l c.toUInt8
   have he : Lib.indexByte (b :: l) c.toUInt8 = if b == c.toUInt8 then 0 else if Lib.indexByte l c.toUInt8 == -1 then -1 else Lib.indexByte l c.toUInt8 + 1 := by rw [Lib.indexByte]
   have hb : (b == c.toUInt8) = Nat.beq b.toNat c := by
    have e1 : c.toUInt8.toNat = c := by
     show (UInt8.ofNat c).toNat = c
     rw [UInt8.toNat_ofNat']; omega
    cases e : Nat.beq b.toNat c with
    | true =>
      have := Nat.eq_of_beq_eq_true e
      exact beq_iff_eq.2 (UInt8.toNat_inj.1 (by rw [e1]; exact this))
    | false =>
      have := Nat.ne_of_beq_eq_false e
      exact beq_eq_false_iff_ne.2 (fun h => this (by rw [h, e1]))
   rw [he, hb]
   cases Nat.beq b.toNat c with
   | true => rfl
   | false =>
     show (if Lib.indexByte l c.toUInt8 = -1 then none else some (Nat.succ i + (Lib.indexByte l c.toUInt8).toNat)) = _
     by_cases h1 : Lib.indexByte l c.toUInt8 = -1
     · rw [h1]; rfl
     · have h2 : (Lib.indexByte l c.toUInt8 == -1) = false := beq_eq_false_iff_ne.2 h1
       rw [h2, if_neg h1]
       simp only [Bool.false_eq_true, if_false]
       rw [if_neg (by omega)]
       congr 1
       omega
theorem decG_digs : ∀ (l : List UInt8) (n m : Nat), decG l n = some m → Digs l ∧ horA n l = m
 | [], n, m, h => ⟨fun c hc => absurd hc (by simp), Option.some.inj h⟩
 | b :: l, n, m, h => by
   have h : cond (Nat.ble 48 b.toNat && Nat.ble b.toNat 57) (forceN (Nat.add (Nat.mul n 10) (Nat.sub b.toNat 48)) (decG l)) none = some m := h
   rcases cond_split h with ⟨h1, h2⟩ | ⟨_, h2⟩
   · obtain ⟨h3, h4⟩ := and_split h1
     have h3 := of_ble h3
     have h4 := of_ble h4
     rw [forceN_eq] at h2
     obtain ⟨h5, h6⟩ := decG_digs l _ _ h2
     refine ⟨fun c hc => ?_, by rw [horA_cons]; exact h6⟩
     rcases List.mem_cons.1 hc with rfl | hc
     · exact ⟨h3, h4⟩
     · exact h5 c hc
   · cases h2
theorem atoi_okL {l : List UInt8} {m : Nat} (h1 : 1 ≤ l.length) (h : decG l 0 = some m) (hm : m ≤ 999999) : Lib.atoiAll l = .ok (m : Int) := by
 obtain ⟨h2, h3⟩ := decG_digs l 0 m h
 have h4 := (atoi_digs l h2 (fun e => by rw [e] at h1; simp at h1)).2 (by omega)
 rw [h3] at h4; exact h4
def baseOf (w0 : World) : Base := ⟨fun _ => none, fun r => w0.heap[r]?⟩
theorem maxAt_row {w w' : World} (h : MaxAt w) (hb : ∀ (r : Nat) (o : Obj), w.heap[r]? = some o → w'.heap[r]? = some o) : MaxAt w' := by
 obtain ⟨m, hm⟩ := h
 refine ⟨m, ?_⟩
 have hlt := World.block_lt_of_cell? _ _ hm
 have h1 : w.heap[0]? = some (w.heap[0]) := Array.getElem?_eq_getElem hlt
 have h2 := hb _ _ h1
 unfold World.cell? at *
 rw [h2]; rw [h1] at hm; exact hm
section
variable {w0 : World}
theorem two_args {β : Bij} {x y : Value} {args' : Array Value} (hl : VL β [x, y] args'.toList) : ∃ u v, args' = #[u, v] ∧ VR β x u ∧ VR β y v := by
 obtain ⟨u, r, e, h1, h2⟩ := hl.uncons
 obtain ⟨v, r2, e2, h3, h4⟩ := h2.uncons
 obtain rfl : r2 = [] := by have := h4.1; simpa using this.symm
 subst e2
 exact ⟨u, v, Array.toList_inj.1 e, h1, h3⟩
theorem toList_length (s : ByteArray) : s.data.toList.length = s.size := rfl
theorem xl_ok (hE : MaxAt w0) : letI : Inhabited Base := ⟨baseOf w0⟩; XOk Tryd.prog XL := by
 letI : Inhabited Base := ⟨baseOf w0⟩
 intro f k hk args H v H' h β w args' hw hr hl
 have hrow : ∀ (r : Nat) (o : Obj), w0.heap[r]? = some o → w.heap[r]? = some o := fun r o e => hr.fix r o e
 obtain ⟨mx, hmx⟩ := maxAt_row hE hrow
 unfold XL at hk
 rcases cond_split hk with ⟨h1, h2⟩ | ⟨_, hk⟩
 · have h1 := of_beq h1
   subst h1
   cases h2
   unfold placeS at h
   split at h
   · rename_i s sep
     rcases cond_split h with ⟨h3, h4⟩ | ⟨_, h4⟩
     · obtain ⟨h5, h6⟩ := and_split h3
       have h5 := of_ble h5
       have h6 := of_ble h6
       rw [lenL_eq] at h5 h6
       have hne : sep.data.toList ≠ [] := fun e => by rw [e] at h5; simp at h5
       have hc := Tryd.strings_Index s sep mx w (by rw [toList_length] at h6; omega) hmx
       rw [idxL_eq _ hne] at h4
       have hge := Lib.index_ge s.data.toList sep.data.toList
       have hv : v = .int .i64 (Lib.index s.data.toList sep.data.toList) ∧ H' = H := by
        by_cases hi : Lib.index s.data.toList sep.data.toList = -1
        · rw [if_pos hi] at h4
          cases h4
          rw [hi]
          exact ⟨rfl, rfl⟩
        · rw [if_neg hi] at h4
          cases h4
          refine ⟨?_, rfl⟩
          congr 1
          show ((0 + (Lib.index s.data.toList sep.data.toList).toNat : Nat) : Int) = _
          omega
       obtain ⟨rfl, rfl⟩ := hv
       refine pure_post (fun x hx => by rcases List.mem_cons.1 hx with rfl | hx; rfl; rcases List.mem_singleton.1 hx with rfl; rfl)
        (fun β => .atom rfl) (hc.mono ?_) hw hr hl
       rintro e w' ⟨rfl, rfl⟩
       exact ⟨rfl, Below.refl _ _⟩
     · cases h4
   · cases h
 rcases cond_split hk with ⟨h1, h2⟩ | ⟨_, hk⟩
 · have h1 := of_beq h1
   subst h1
   cases h2
   unfold ixbS at h
   split at h
   · rename_i s c
     rcases cond_split h with ⟨h3, h4⟩ | ⟨_, h4⟩
     · have h5 := of_ble h3
       have hc := Tryd.strings_IndexByte s (Int.ofNat c) w
       have e1 : (Int.ofNat c).toNat.toUInt8 = c.toUInt8 := rfl
       rw [e1] at hc
       rw [ixbL_eq c h5] at h4
       have hge := Lib.indexByte_ge s.data.toList c.toUInt8
       have hv : v = .int .i64 (Lib.indexByte s.data.toList c.toUInt8) ∧ H' = H := by
        by_cases hi : Lib.indexByte s.data.toList c.toUInt8 = -1
        · rw [if_pos hi] at h4
          cases h4
          rw [hi]
          exact ⟨rfl, rfl⟩
        · rw [if_neg hi] at h4
          cases h4
          refine ⟨?_, rfl⟩
          congr 1
          show ((0 + (Lib.indexByte s.data.toList c.toUInt8).toNat : Nat) : Int) = _
          omega
       obtain ⟨rfl, rfl⟩ := hv
       refine pure_post (fun x hx => by rcases List.mem_cons.1 hx with rfl | hx; rfl; rcases List.mem_singleton.1 hx with rfl; rfl)
        (fun β => .atom rfl) (hc.mono ?_) hw hr hl
       rintro e w' ⟨rfl, rfl⟩
       exact ⟨rfl, Below.refl _ _⟩
     · cases h4
   · cases h
 rcases cond_split hk with ⟨h1, h2⟩ | ⟨_, hk⟩
 · have h1 := of_beq h1
   subst h1
   cases h2
   unfold preS at h
   split at h
   · rename_i s p
     cases h
     rw [preL_eq]
     refine pure_post (fun x hx => by rcases List.mem_cons.1 hx with rfl | hx; rfl; rcases List.mem_singleton.1 hx with rfl; rfl)
      (fun β => .atom rfl) ((Tryd.strings_HasPrefix s p w).mono ?_) hw hr hl
     rintro e w' ⟨rfl, rfl⟩
     exact ⟨rfl, Below.refl _ _⟩
   · cases h
 rcases cond_split hk with ⟨h1, h2⟩ | ⟨_, hk⟩
 · have h1 := of_beq h1
   subst h1
   cases h2
   unfold atoiS at h
   split at h
   · rename_i s
     rcases cond_split h with ⟨h3, h4⟩ | ⟨_, h4⟩
     · obtain ⟨h5, h6⟩ := and_split h3
       have h5 := of_ble h5
       have h6 := of_ble h6
       rw [lenL_eq] at h5 h6
       cases hd : decG s.data.toList 0 with
       | none => rw [hd] at h4; cases h4
       | some n =>
         rw [hd] at h4
         have h4 : cond (Nat.ble n 999999) (Ret.ok (.tuple #[.int .i64 (.ofNat n), .nilIface]) H) (.bad 173 []) = .ok v H' := h4
         rcases cond_split h4 with ⟨h7, h4⟩ | ⟨_, h4⟩
         case inr => cases h4
         have h7 := of_ble h7
         cases h4
         have hsz : s.data.toList.length = s.size := rfl
         refine pure_post (fun x hx => by rcases List.mem_singleton.1 hx with rfl; rfl)
          (fun β => .tuple rfl (VL.cons (.atom rfl) (VL.cons (.atom rfl) (VL.nil β))).2) ((Tryd.strconv_Atoi_ok s (by omega) n (atoi_okL h5 hd h7) w).mono ?_) hw hr hl
         rintro e w' ⟨rfl, hw2⟩
         refine ⟨rfl, ?_⟩
         rcases hw2 with rfl | ⟨t, rfl⟩
         · exact Below.refl _ _
         · exact ⟨rfl, rfl, rfl, by rw [Lib.bytesWorld_size]; omega, fun r hr => Lib.bytesWorld_at_old w _ t r hr⟩
     · cases h4
   · cases h
 · cases hk
/-- a run without arguments that tells true -/
theorem run_envL (hE : MaxAt w0) (n : Nat) (f : FuncId) (h : okT (callX Tryd.prog XL n f [] Hp.none) = true) : Calls Tryd.prog f #[] w0 fun e w' => e = .returned (.bool true) ∧ Below w0.heap.size w0 w' := by
 obtain ⟨H, h1⟩ := okT_inv h
 letI : Inhabited Base := ⟨baseOf w0⟩
 have hr : HR (Ab Hp.none.ban) (fun _ => none) Hp.none w0 := ⟨fun b k h => (by cases h), fun b k q h => (by cases h), fun b b' k k' q q' h => (by cases h), fun b k h => (by cases h), fun r o e => e, fun b k h => (by cases h)⟩
 have hl : VL (fun _ => none) [] (#[] : Array Value).toList := VL.nil _
 refine (run_from (xl_ok hE) (fun call hc => region_ok mixed hc) n f [] h1 none_WF hr hl).mono ?_
 rintro e w' ⟨β', v', rfl, h1, h2, h3, h4⟩
 refine ⟨by rw [h1.of_flat rfl], h2.os, h2.tape, h2.output, h2.size, fun k hk => h2.block k hk (fun b k' q hb => by cases hb)⟩
end
end
section
open Go.RowKit
theorem wakes7_run : okT (callX Tryd.prog XL 100000 8 [] Hp.none) = true := by kernel_rfl
theorem wakes7_any (w : World) (hE : MaxAt w) : Calls Tryd.prog 8 #[] w fun e w' => e = .returned (.bool true) ∧ Below w.heap.size w w' :=
 run_envL hE 100000 8 wakes7_run
end
end Go.Proofs.YtnoppoifepbchaaDoor.Sh
