/- A region that draws its order: what an operation names; values of older blocks. Of no program. -/
import Derived.Test.YtmfjpdlegaimlaaGreatDoorSh16
namespace Go.Proofs.YtmfjpdlegaimlaaGreatDoor
open Go.RowKit
set_option linter.unusedVariables false
set_option linter.unusedSimpArgs false
variable {bs : Inhabited Base}

theorem mapL_congr {α β : Type} {f g : α → β} : ∀ (l : List α), (∀ x, x ∈ l → f x = g x) → mapL f l = mapL g l
  | [], h => rfl
  | x :: r, h => by
    show f x :: mapL f r = g x :: mapL g r
    rw [h x (List.mem_cons_self ..), mapL_congr r (fun y hy => h y (List.mem_cons_of_mem _ hy))]
theorem opt_congr {R R' : Regs} {o : Option Operand} (h : ∀ x, o = some x → evS R x = evS R' x) : o.map (evS R) = o.map (evS R') := by
  cases o with
  | none => rfl
  | some x => simp [h x rfl]
section
variable {P : Program} {H : Hp}
theorem opS_congr {R R' : Regs} {ty : TypeId} (o : Op) (h : ∀ x, x ∈ o.operands.toList → evS R x = evS R' x) : opS P R H ty o = opS P R' H ty o := by
  cases o with
  | move x => simp only [opS]; rw [h x (by simp [Op.operands])]
  | assign x => simp only [opS]; rw [h x (by simp [Op.operands])]
  | pick c a b => simp only [opS]; rw [h c (by simp [Op.operands]), h a (by simp [Op.operands]), h b (by simp [Op.operands])]
  | alloc e => rfl
  | box e x => simp only [opS]; rw [h x (by simp [Op.operands])]
  | build t ps =>
    simp only [opS, partsS]
    rw [mapL_congr (f := fun p => (p.1, evS R p.2)) (g := fun p => (p.1, evS R' p.2)) ps.toList (fun p hp => by
      show (p.1, evS R p.2) = (p.1, evS R' p.2)
      rw [h p.2 (by simp only [Op.operands]; simp; exact ⟨p.1, by simpa using hp⟩)])]
  | buildSlice t n ps =>
    simp only [opS, partsS]
    rw [mapL_congr (f := fun p => (p.1, evS R p.2)) (g := fun p => (p.1, evS R' p.2)) ps.toList (fun p hp => by
      show (p.1, evS R p.2) = (p.1, evS R' p.2)
      rw [h p.2 (by simp only [Op.operands]; simp; exact ⟨p.1, by simpa using hp⟩)])]
  | load t a => simp only [opS]; rw [h a (by simp [Op.operands])]
  | store t a v => simp only [opS]; rw [h a (by simp [Op.operands]), h v (by simp [Op.operands])]
  | nilCheck x => simp only [opS]; rw [h x (by simp [Op.operands])]
  | fieldAddr t x f => simp only [opS]; rw [h x (by simp [Op.operands])]
  | field t x f => simp only [opS]; rw [h x (by simp [Op.operands])]
  | indexAddr t x ix => simp only [opS]; rw [h x (by simp [Op.operands]), h ix (by simp [Op.operands])]
  | slice t x lo hi mx =>
    cases mx with
    | some m => rfl
    | none =>
      simp only [opS, sliceO]
      rw [h x (by simp [Op.operands]), opt_congr (o := lo) (fun y hy => h y (by subst hy; simp [Op.operands])), opt_congr (o := hi) (fun y hy => h y (by subst hy; simp [Op.operands]))]
  | makeSlice t l c => simp only [opS]; rw [h l (by simp [Op.operands]), h c (by simp [Op.operands])]
  | extract x k => simp only [opS]; rw [h x (by simp [Op.operands])]
  | binOp op t x y t2 => simp only [opS]; rw [h x (by simp [Op.operands]), h y (by simp [Op.operands])]
  | unOp op t x => simp only [opS]; rw [h x (by simp [Op.operands])]
  | convert s d x => simp only [opS]; rw [h x (by simp [Op.operands])]
  | index t x ix => simp only [opS]; rw [h x (by simp [Op.operands]), h ix (by simp [Op.operands])]
  | makeMap t hint => rfl
  | lookup t x ix ok => simp only [opS]; rw [h x (by simp [Op.operands]), h ix (by simp [Op.operands])]
  | mapUpdate t m k v => simp only [opS]; rw [h m (by simp [Op.operands]), h k (by simp [Op.operands]), h v (by simp [Op.operands])]
  | call c =>
    have ha := mapL_congr (f := evS R) (g := evS R') c.args.toList (fun x hx => h x (by
      simp only [Op.operands, Call.operands]
      simp; exact .inr (by simpa using hx)))
    simp only [opS]
    unfold callC
    cases hc : c.callee with
    | builtin b => simp only; rw [ha]
    | value f => simp only; rw [ha, h f (by simp [Op.operands, Call.operands, hc])]
    | invoke r m => rfl
  | _ => rfl
theorem rddOf_congr {R R' : Regs} {ban : List Nat} (o : Op) (h : ∀ x, x ∈ o.operands.toList → evS R x = evS R' x) : rddOf H R ban o = rddOf H R' ban o := by
  cases o with
  | load t a => simp only [rddOf]; rw [h a (by simp [Op.operands])]
  | store t a v => simp only [rddOf]; rw [h a (by simp [Op.operands])]
  | _ => rfl
end

/-! ### slots of some names alone -/
noncomputable def unkT : Regs := Nat.rec (motive := fun _ => Regs) .nil (fun _ t => .node (some unknownS) t t) 10
noncomputable def selR (R : Regs) (ts : List Tmp) : Regs := ts.foldr (fun t T => T.set (getR R t) (Nat.succ t)) unkT
theorem unk_get : ∀ (d k : Nat), (Nat.rec (motive := fun _ => Regs) .nil (fun _ t => .node (some unknownS) t t) d : Regs).get k = some unknownS ∨ (Nat.rec (motive := fun _ => Regs) .nil (fun _ t => .node (some unknownS) t t) d : Regs).get k = none
  | 0, k => .inr (Tr.get_nil k)
  | d + 1, k => by
    show (Tr.node (some unknownS) _ _).get k = _ ∨ (Tr.node (some unknownS) _ _).get k = _
    rw [Tr.get_node]
    split
    · exact .inl rfl
    · split
      · exact unk_get d _
      · exact unk_get d _
theorem unk_in : ∀ (d k : Nat), 1 ≤ k → k < 2 ^ d → (Nat.rec (motive := fun _ => Regs) .nil (fun _ t => .node (some unknownS) t t) d : Regs).get k = some unknownS ∧ (Nat.rec (motive := fun _ => Regs) .nil (fun _ t => .node (some unknownS) t t) d : Regs).inb k = true
  | 0, k, h1, h2 => by simp at h2; omega
  | d + 1, k, h1, h2 => by
    show (Tr.node (some unknownS) _ _).get k = _ ∧ (Tr.node (some unknownS) _ _).inb k = true
    rw [Tr.get_node, Tr.inb_node]
    rw [Nat.pow_succ] at h2
    by_cases e : k = 1
    · subst e; simp
    · have h3 := unk_in d (k / 2) (by omega) (by omega)
      rw [if_neg e]
      simp [h3.1, h3.2]
theorem sel_wide (R : Regs) : ∀ ts, Wide (selR R ts)
  | [] => fun t ht => (unk_in 10 (t + 1) (by omega) (by omega)).2
  | t :: r => fun j hj => by
    show ((selR R r).set (getR R t) (Nat.succ t)).inb (j + 1) = true
    rw [Tr.inb_set]; exact sel_wide R r j hj
theorem sel_in (R : Regs) : ∀ (ts : List Tmp) (t : Nat), t ∈ ts → t < 1000 → getR (selR R ts) t = getR R t
  | [], t, h, _ => by cases h
  | x :: r, t, h, ht => by
    show getR ((selR R r).set (getR R x) (Nat.succ x)) t = _
    by_cases e : t = x
    · subst e
      rw [getR_set _ _ _ _ (sel_wide R r t ht), if_pos rfl]
    · have hr : t ∈ r := by
        rcases List.mem_cons.1 h with h | h
        · exact absurd h e
        · exact h
      have : getR ((selR R r).set (getR R x) (Nat.succ x)) t = getR (selR R r) t := by
        unfold getR
        rw [Tr.get_set_other _ _ _ _ (by intro h; exact e (Nat.succ.inj h))]
      rw [this]; exact sel_in R r t hr ht
theorem sel_out (R : Regs) : ∀ (ts : List Tmp) (t : Nat), (t ∈ ts ∧ getR (selR R ts) t = getR R t) ∨ getR (selR R ts) t = unknownS ∨ (getR (selR R ts) t = undefS ∧ 1000 ≤ t)
  | [], t => by
    right
    by_cases h : t < 1000
    · left
      have := (unk_in 10 (t + 1) (by omega) (by omega)).1
      show Option.rec (motive := fun _ => Value) undefS (fun v => v) (unkT.get (Nat.succ t)) = unknownS
      unfold unkT
      rw [this]
    · rcases unk_get 10 (t + 1) with h1 | h1
      · left; show Option.rec (motive := fun _ => Value) undefS (fun v => v) (unkT.get (Nat.succ t)) = unknownS; unfold unkT; rw [h1]
      · right; refine ⟨?_, by omega⟩; show Option.rec (motive := fun _ => Value) undefS (fun v => v) (unkT.get (Nat.succ t)) = undefS; unfold unkT; rw [h1]
  | x :: r, t => by
    show (t ∈ x :: r ∧ getR ((selR R r).set (getR R x) (Nat.succ x)) t = _) ∨ getR ((selR R r).set (getR R x) (Nat.succ x)) t = _ ∨ (getR ((selR R r).set (getR R x) (Nat.succ x)) t = _ ∧ _)
    by_cases e : t = x
    · subst e
      by_cases hb : (selR R r).inb (t + 1) = true
      · left; exact ⟨List.mem_cons_self .., by rw [getR_set _ _ _ _ hb, if_pos rfl]⟩
      · have h0 : ¬ t < 1000 := fun h => hb (sel_wide R r t h)
        have : (selR R r).set (getR R t) (Nat.succ t) = selR R r := by
          exact Tr.set_out _ _ _ (by simpa using hb)
        rw [this]
        rcases sel_out R r t with ⟨h1, h2⟩ | h1 | h1
        · exact .inl ⟨List.mem_cons_of_mem _ h1, h2⟩
        · exact .inr (.inl h1)
        · exact .inr (.inr h1)
    · have : getR ((selR R r).set (getR R x) (Nat.succ x)) t = getR (selR R r) t := by
        unfold getR
        rw [Tr.get_set_other _ _ _ _ (by intro h; exact e (Nat.succ.inj h))]
      rw [this]
      rcases sel_out R r t with ⟨h1, h2⟩ | h1 | h1
      · exact .inl ⟨List.mem_cons_of_mem _ h1, h2⟩
      · exact .inr (.inl h1)
      · exact .inr (.inr h1)
theorem sel_RR {β : Bij} {R : Regs} {tmps : Array Value} (hs : tmps.size ≤ 1000) (ts : List Tmp) (h : ∀ t, t ∈ ts → VR β (getR R t) (tmps.getD t undef)) : RR β (selR R ts) tmps := by
  intro t
  rcases sel_out R ts t with ⟨h1, h2⟩ | h1 | ⟨h1, h2⟩
  · rw [h2]; exact h t h1
  · rw [h1]; exact .any _
  · rw [h1]
    have : tmps.getD t undef = undef := by rw [Array.getD_eq_getD_getElem?, Array.getElem?_eq_none (by omega)]; rfl
    rw [this]; exact VR.undef β
theorem sel_eval {R : Regs} {L : List Oper} {o : Oper} (hs : ∀ t, t ∈ namesOf L o → t < 1000) (x : Operand) (hx : x ∈ o.op.operands.toList) : evS (selR R (namesOf L o)) x = evS R x := by
  cases x with
  | tmp t =>
    have ht : t ∈ namesOf L o := by
      unfold namesOf
      refine List.mem_append_right _ (List.mem_append_left _ ?_)
      rw [List.mem_filterMap]
      exact ⟨.tmp t, hx, rfl⟩
    exact sel_in R _ t ht (hs t ht)
  | const v => rfl
  | global g => rfl
  | func f => rfl

/-! ### values that lead to older blocks alone -/
def VB (n : Nat) (x : Value) : Prop := ∃ β y, (∀ (b : Nat) (k : Bk), β b = some k → b < n) ∧ VR β x y
theorem VR.cut {β : Bij} {n : Nat} {x y : Value} (h : VR β x y) (hb : VB n x) : VR (fun b => if b < n then β b else none) x y := by
  obtain ⟨β0, y0, h0, h1⟩ := hb
  induction h generalizing y0 with
  | any v => exact .any v
  | atom h => exact .atom h
  | ptr h =>
    obtain ⟨k, hk, _⟩ := h1.ptr_inv (sp := none)
    exact .ptr (by simp only [if_pos (h0 _ _ hk)]; exact h)
  | slice h hn hc hz =>
    rename_i b off n' c k
    rcases h1.slice_inv with ⟨e, _⟩ | ⟨e1, a', c', e, _⟩ | ⟨b', off', k', c', e, hk, _⟩
    · cases e
    · cases e
      cases h1 with
      | atom h => cases h
      | slice hk _ _ _ => exact .slice (by simp only [if_pos (h0 _ _ hk)]; exact h) hn hc hz
      | void a c2 =>
        exact .void _ _
    · cases e
      exact .slice (by simp only [if_pos (h0 _ _ hk)]; exact h) hn hc hz
  | map h =>
    obtain ⟨k, hk, _⟩ := h1.map_inv
    exact .map (by simp only [if_pos (h0 _ _ hk)]; exact h)
  | void a c => exact .void a c
  | agg hl h ih =>
    obtain ⟨zs, rfl, hz⟩ := h1.agg_inv
    refine .agg hl (fun i x y hx hy => ?_)
    obtain ⟨u, hu, hv⟩ := hz.get hx
    exact ih i x y hx hy u hv
  | tuple hl h ih =>
    obtain ⟨zs, rfl, hz⟩ := h1.tuple_inv
    refine .tuple hl (fun i x y hx hy => ?_)
    obtain ⟨u, hu, hv⟩ := hz.get hx
    exact ih i x y hx hy u hv
  | func hl h hl' h' ih ih' =>
    obtain ⟨zs, zs', rfl, hz, hz'⟩ := h1.func_inv
    refine .func hl (fun i x y hx hy => ?_) hl' (fun i x y hx hy => ?_)
    · obtain ⟨u, hu, hv⟩ := hz.get hx
      exact ih i x y hx hy u hv
    · obtain ⟨u, hu, hv⟩ := hz'.get hx
      exact ih' i x y hx hy u hv
end Go.Proofs.YtmfjpdlegaimlaaGreatDoor
