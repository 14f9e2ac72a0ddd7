/- The small machine's operations: each one; those that look at no memory. Of no program. -/
import Derived.Test.YtmfjpdlegaimlaaGreatDoorShM
namespace Go.Proofs.YtmfjpdlegaimlaaGreatDoor
open Go.RowKit
set_option linter.unusedVariables false
set_option linter.unusedSimpArgs false
variable {bs : Inhabited Base}

section
variable {P : Program} {A : Nat → Prop} {β : Bij} {H : Hp} {w : World}

/-- what looks at no memory is told whatever the world -/
def PureX (P : Program) (β : Bij) (H : Hp) (s : Sem Next) : Nx → Prop
  | .val v H' => H' = H ∧ ∃ v', VR β v v' ∧ ∀ w, s.run P w = .ok (.value v') w
  | .bad _ => True
  | _ => False
theorem Pure.x {s : Sem Value} {t : Sem Next} {n : Nx} (h : Pure P β H s n) (ht : ∀ w, t.run P w = (do pure (Next.value (← s)) : Sem Next).run P w) : PureX P β H t n := by
  cases n with
  | val v H' =>
    obtain ⟨h1, v', h2, h3⟩ := h
    exact ⟨h1, v', h2, fun w => by rw [ht]; exact run_v (h3 w)⟩
  | bad n => trivial
  | skip H' => exact h.elim
  | enter f l H' => exact h.elim
theorem pure_run {R : Regs} {a : Act} (h : RR β R a.tmps) (o : Oper) (hp : pureO o.op = true) : PureX P β H (execOp a.eval o) (opS P R H o.type o.op) := by
  cases ho : o.op with
  | move x => exact ⟨rfl, _, h.eval x, fun w => by simp [execOp, ho]⟩
  | assign x => exact ⟨rfl, _, h.eval x, fun w => by simp [execOp, ho]⟩
  | pick c x y => exact (pick_run (h.eval c) (h.eval x) (h.eval y)).x (fun w => by simp [execOp, ho])
  | nilCheck x =>
    have hx := h.eval x
    show PureX P β H _ (nilS H (evS R x))
    revert hx
    generalize evS R x = vx
    intro hx
    unfold nilS
    split
    · rename_i ad
      obtain ⟨a', hy, ha⟩ := hx.ptr_some
      cases a' with
      | none => cases ha
      | some a' => exact ⟨rfl, .pointer (some a'), by rw [← hy]; exact hx, fun w => by simp [execOp, ho, hy]⟩
    · trivial
  | fieldAddr t x f => exact (fieldAddr_run (h.eval x)).x (fun w => by simp only [execOp, ho])
  | field t x f => exact (field_run (h.eval x)).x (fun w => by simp only [execOp, ho])
  | indexAddr t x ix => exact (indexAddr_run (h.eval x) (h.eval ix)).x (fun w => by simp only [execOp, ho])
  | slice t x lo hi mx =>
    cases mx with
    | none => exact (slice_run (h.eval x) (opt_OR h lo) (opt_OR h hi)).x (fun w => by simp only [execOp, ho]; rfl)
    | some m => trivial
  | extract x k => exact (extract_run (h.eval x)).x (fun w => by simp only [execOp, ho])
  | binOp op t x y t2 => exact (binS_run (h.eval x) (h.eval y)).x (fun w => by simp only [execOp, ho])
  | unOp op t x => exact (un_run (h.eval x)).x (fun w => by simp only [execOp, ho])
  | index t x ix => exact (index_run (h.eval x) (h.eval ix)).x (fun w => by simp only [execOp, ho])
  | call c =>
    rw [ho] at hp
    have ha := args_VL h c.args
    have hm : (c.args.map a.eval) = ((c.args.map a.eval).toList).toArray := (Array.toArray_toList).symm
    have hts : c.argTypes.toList.toArray = c.argTypes := Array.toArray_toList
    have hpc : pureO (.call c) = (match c.callee with | .builtin b => pureB b | _ => false) := rfl
    rw [hpc] at hp
    have hop : opS P R H o.type (.call c) = callC P R H o.type c := rfl
    rw [hop]
    unfold callC
    cases hc : c.callee with
    | builtin b =>
      rw [hc] at hp
      simp only at hp
      have hex : ∀ w, (execOp a.eval o).run P w = (builtin b c.argTypes o.type (c.args.map fun | .const _ => true | _ => false) (c.args.map a.eval)).run P w := by
        intro w
        simp only [execOp, ho, resolve, hc, pure_bind, invoke]
        rfl
      cases b <;> first | cases hp | skip
      · refine (len_run (P := P) (H := H) (ts := c.argTypes) (t := o.type) ha).x (fun w => ?_)
        rw [hex, ← hm]; rfl
      · have := min_run (P := P) (H := H) (f := Builtin.max_) (ts := c.argTypes.toList) (t := o.type) ha 57 58
        refine Pure.x this (fun w => ?_)
        rw [hex, ← hm, hts]; rfl
      · have := min_run (P := P) (H := H) (f := Builtin.min_) (ts := c.argTypes.toList) (t := o.type) ha 55 56
        refine Pure.x this (fun w => ?_)
        rw [hex, ← hm, hts]; rfl
    | value f => rw [hc] at hp; cases hp
    | invoke r m => rw [hc] at hp; cases hp
  | _ => rw [ho] at hp; cases hp
theorem PureX.does {s : Sem Next} {n : Nx} (h : PureX P β H s n) (hw : WF H) (hr : HR A β H w) : Does P A β H w s n := by
  cases n with
  | val v H' =>
    obtain ⟨rfl, v', hv, hs⟩ := h
    exact ⟨β, v', w, hs w, St.refl _ _ _, hv, hr, hw⟩
  | bad n => trivial
  | skip H' => exact h.elim
  | enter f l H' => exact h.elim
theorem op_does (hw : WF H) (hr : HR A β H w) {R : Regs} {a : Act} (h : RR β R a.tmps) (o : Oper) (hA : ∀ i, (rddOf H R H.ban o.op).has i = true → memN H.ban i = false → A i) : Does P A β H w (execOp a.eval o) (opS P R H o.type o.op) := by
  by_cases hp : pureO o.op = true
  · exact (pure_run h o hp).does hw hr
  have hpf : pureO o.op = false := by simpa using hp
  have hA' : (∀ op, rddOf H R H.ban op = cond (pureO op) .none (.but H.ban) → op = o.op → ∀ i, memN H.ban i = false → A i) := by
    intro op e1 e2 i hi
    refine hA i ?_ hi
    rw [← e2, e1, e2, hpf]
    show (!(memN H.ban i)) = true
    rw [hi]; rfl
  cases ho : o.op with
  | alloc e =>
    have := alloc_does (P := P) (A := A) (β := β) hw hr e
    simp only [execOp, ho]
    exact this
  | box e x =>
    have := box_does (P := P) hw hr e (h.eval x)
    simp only [execOp, ho]
    exact this
  | build t ps =>
    have := (build_run (P := P) (H := H) (t := t) (parts_PL h ps)).does hw hr (A := A) (w := w)
    simp only [execOp, ho]
    rw [Array.toArray_toList] at this
    exact this
  | buildSlice t n ps =>
    have := buildSlice_does (P := P) hw hr (t := t) (len := n) (parts_PL h ps)
    simp only [execOp, ho]
    rw [Array.toArray_toList] at this
    exact this
  | load t x =>
    have := (load_run (P := P) hr (t := t) (h.eval x) (fun b q hb hq hn => hA q.grp (by rw [ho]; show (oneOf (grpAt H (placeOf (evS R x)))).has q.grp = true; rw [hb]; unfold grpAt; simp only [hq]; exact beq_t rfl) hn)).does hw hr
    simp only [execOp, ho]
    exact this
  | store t x v =>
    have := store_does (P := P) hw hr (t := t) (h.eval x) (h.eval v) (fun b q hb hq hn => hA q.grp (by rw [ho]; show (oneOf (grpAt H (placeOf (evS R x)))).has q.grp = true; rw [hb]; unfold grpAt; simp only [hq]; exact beq_t rfl) hn)
    simp only [execOp, ho]
    exact this
  | makeSlice t l c =>
    have := makeSlice_does (P := P) hw hr (t := t) (h.eval l) (h.eval c)
    simp only [execOp, ho]
    exact this
  | convert s d x =>
    have := (conv_run (P := P) hr (hA' _ rfl ho.symm) (s := s) (d := d) (h.eval x)).does hw hr
    simp only [execOp, ho]
    exact this
  | makeMap t hint =>
    cases hint with
    | some x => trivial
    | none =>
      have := makeMap_does (P := P) hw hr t
      simp only [execOp, ho]
      exact this
  | lookup t x ix ok =>
    have := (lookup_run (P := P) hr (hA' _ rfl ho.symm) (t := t) (ok := ok) (h.eval x) (h.eval ix)).does hw hr
    simp only [execOp, ho]
    exact this
  | mapUpdate t m k v =>
    have := update_does (P := P) hw hr (hA' _ rfl ho.symm) (t := t) (h.eval m) (h.eval k) (h.eval v)
    simp only [execOp, ho]
    exact this
  | call c =>
    have hA2 := hA' _ rfl ho.symm
    simp only [execOp, ho]
    show Does P A β H w _ (callC P R H o.type c)
    unfold callC
    cases hc : c.callee with
    | builtin b => exact builtin_does hw hr h c b hc o.type (fun _ => hA2)
    | value f => exact call_does hw hr hA2 h c f hc o.type
    | invoke r m => trivial
  | _ => first | (rw [ho] at hpf; cases hpf; done) | (simp only [opS]; trivial)
end
end Go.Proofs.YtmfjpdlegaimlaaGreatDoor
