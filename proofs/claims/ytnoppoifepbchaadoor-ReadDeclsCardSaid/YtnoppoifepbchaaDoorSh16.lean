/- A region that draws its order: what stands ahead of what. Of no program. -/
import Derived.Test.YtnoppoifepbchaaDoorSh14
namespace Go.Proofs.YtnoppoifepbchaaDoor.Sh
section
open Go.RowKit
set_option linter.unusedVariables false
set_option linter.unusedSimpArgs false
variable {bs : Inhabited Base}

theorem bit_eq (m i : Nat) : bitS m i = m.testBit i := by
 rw [Nat.testBit_eq_decide_div_mod_eq]
 unfold bitS
 by_cases h : m / 2 ^ i % 2 = 1
 · rw [beq_t (show Nat.mod (Nat.div m (Nat.pow 2 i)) 2 = 1 from h)]; simp [h]
 · rw [beq_f (show ¬ Nat.mod (Nat.div m (Nat.pow 2 i)) 2 = 1 from h)]; simp [h]
noncomputable def mk (acc : List Nat) (k : Nat) : Nat := match nth acc k with | some m => m | none => 0
theorem edges_bit (acc : List Nat) (i : Nat) : ∀ es : List Edge, bitS (edgesS acc es) i = true → ∃ e, e ∈ es ∧ Region.binds .any e = true ∧ (e.on = i ∨ bitS (mk acc e.on) i = true)
 | [], h => by
   rw [bit_eq] at h
   have : (0 : Nat).testBit i = true := h
   simp at this
 | e :: r, h => by
   have h' : bitS (cond (Region.binds .any e) (Nat.lor (Nat.lor (Nat.pow 2 e.on) (mk acc e.on)) (edgesS acc r)) (edgesS acc r)) i = true := h
   cases hb : Region.binds .any e with
   | false =>
     rw [hb] at h'
     obtain ⟨e', h1, h2⟩ := edges_bit acc i r h'
     exact ⟨e', List.mem_cons_of_mem _ h1, h2⟩
   | true =>
     rw [hb] at h'
     have h2 : ((2 ^ e.on ||| mk acc e.on) ||| edgesS acc r).testBit i = true := by rw [← bit_eq]; exact h'
     rw [Nat.testBit_or, Nat.testBit_or, Bool.or_eq_true, Bool.or_eq_true] at h2
     rcases h2 with (h2 | h2) | h2
     · rw [Nat.testBit_two_pow] at h2
       exact ⟨e, List.mem_cons_self .., hb, .inl (by simpa using h2)⟩
     · exact ⟨e, List.mem_cons_self .., hb, .inr (by rw [bit_eq]; exact h2)⟩
     · obtain ⟨e', h3, h4⟩ := edges_bit acc i r (by rw [bit_eq]; exact h2)
       exact ⟨e', List.mem_cons_of_mem _ h3, h4⟩
theorem ahead_spec : ∀ (l : List Oper) (acc : List Nat), ∃ tail, aheadS l acc = acc ++ tail ∧ tail.length = l.length ∧ ∀ (i : Nat) (o : Oper), l[i]? = some o → (acc ++ tail)[acc.length + i]? = some (edgesS ((acc ++ tail).take (acc.length + i)) o.after.toList)
 | [], acc => ⟨[], by simp [aheadS], rfl, fun i o h => by simp at h⟩
 | o :: r, acc => by
   obtain ⟨tail, h1, h2, h3⟩ := ahead_spec r (acc ++ [edgesS acc o.after.toList])
   refine ⟨edgesS acc o.after.toList :: tail, ?_, by simp [h2], fun i x hx => ?_⟩
   · show aheadS r (catL acc [edgesS acc o.after.toList]) = _
     rw [catL_eq, h1]; simp
   · cases i with
     | zero =>
       simp at hx; subst hx
       simp
     | succ i =>
       have := h3 i x (by simpa using hx)
       simp only [List.length_append, List.length_singleton, List.append_assoc, List.singleton_append] at this
       rw [show acc.length + (i + 1) = acc.length + 1 + i by omega]
       exact this
theorem mask_spec {L : List Oper} {j : Nat} {o : Oper} (h : L[j]? = some o) {i : Nat} (hb : bitS (maskS L j) i = true) : ∃ e, e ∈ o.after.toList ∧ Region.binds .any e = true ∧ (e.on = i ∨ (e.on < j ∧ bitS (maskS L e.on) i = true)) := by
 obtain ⟨tail, h1, h2, h3⟩ := ahead_spec L []
 simp only [List.nil_append, List.length_nil, Nat.zero_add] at h1 h3
 have hm := h3 j o h
 have e1 : maskS L j = edgesS (tail.take j) o.after.toList := by
  unfold maskS
  rw [h1, nth_eq, hm]
 rw [e1] at hb
 obtain ⟨e, h4, h5, h6⟩ := edges_bit _ i _ hb
 refine ⟨e, h4, h5, ?_⟩
 rcases h6 with h6 | h6
 · exact .inl h6
 · right
   unfold mk at h6
   rw [nth_eq, List.getElem?_take] at h6
   split at h6
   · rename_i m hm'
     split at hm'
     · rename_i hlt
       refine ⟨hlt, ?_⟩
       unfold maskS
       rw [h1, nth_eq, hm']; exact h6
     · cases hm'
   · rw [bit_eq] at h6; simp at h6
theorem allI_spec {α : Type} (f : Nat → α → Bool) : ∀ (l : List α) (k : Nat), allI f l k = true → ∀ (i : Nat) (x : α), l[i]? = some x → f (k + i) x = true
 | [], k, h, i, x, hx => by simp at hx
 | a :: r, k, h, i, x, hx => by
   have h' : cond (f k a) (allI f r (Nat.succ k)) false = true := h
   cases hf : f k a with
   | false => rw [hf] at h'; cases h'
   | true =>
     rw [hf] at h'
     cases i with
     | zero => simp at hx; subst hx; simpa using hf
     | succ i =>
       have := allI_spec f r (k + 1) h' i x (by simpa using hx)
       rw [show k + (i + 1) = k + 1 + i by omega]; exact this
/-- two operations that name what the other one writes -/
def Meets (L : List Oper) (o o' : Oper) : Prop := (∃ d, o'.dst = some d ∧ d ∈ namesOf L o) ∨ (∃ d, o.dst = some d ∧ d ∈ namesOf L o')
structure DrawOk (L : List Oper) : Prop where
 small : ∀ (j : Nat) (o : Oper), L[j]? = some o → ∀ t, t ∈ namesOf L o → t < 1000
 back : ∀ (j : Nat) (o : Oper), L[j]? = some o → ∀ e, e ∈ o.after.toList → Region.binds .any e = true → e.on < j
 meet : ∀ (i j : Nat) (o o' : Oper), L[j]? = some o → L[i]? = some o' → i < j → Meets L o o' → bitS (maskS L j) i = true
theorem drawOk_spec {L : List Oper} (h : drawOk L = true) : DrawOk L := by
 have h1 := allI_spec _ L 0 h
 refine ⟨fun j o hj t ht => ?_, fun j o hj e he hb => ?_, fun i j o o' hj hi hij hm => ?_⟩
 · have h2 := h1 j o hj
   simp only [Nat.zero_add, Bool.and_eq_true] at h2
   have h3 := h2.1.1.1
   rw [List.all_eq_true] at h3
   exact Nat.le_of_ble_eq_true (h3 t ht)
 · have h2 := h1 j o hj
   simp only [Nat.zero_add, Bool.and_eq_true] at h2
   have h3 := h2.1.1.2
   rw [List.all_eq_true] at h3
   have h4 := h3 e he
   rw [hb] at h4
   have h5 : Nat.blt e.on j = true := by simpa using h4
   exact Nat.le_of_ble_eq_true h5
 · have h2 := h1 j o hj
   simp only [Nat.zero_add, Bool.and_eq_true] at h2
   have h3 := allI_spec _ L 0 h2.2 i o' hi
   simp only [Nat.zero_add, Bool.or_eq_true] at h3
   rcases h3 with h3 | h3 | h3
   · exact absurd (of_ble h3) (by omega)
   · exfalso
     rw [Bool.and_eq_true] at h3
     rcases hm with ⟨d, h4, h5⟩ | ⟨d, h4, h5⟩
     · have := h3.1; rw [h4] at this; simp at this; rw [(memN_eq _ _).2 h5] at this; cases this
     · have := h3.2; rw [h4] at this; simp at this; rw [(memN_eq _ _).2 h5] at this; cases this
   · exact h3
theorem mask_lt {L : List Oper} (hd : DrawOk L) : ∀ (j : Nat) (o : Oper), L[j]? = some o → ∀ i, bitS (maskS L j) i = true → i < j := by
 intro j
 induction j using Nat.strongRecOn with
 | ind j ih =>
   intro o ho i hb
   obtain ⟨e, h1, h2, h3⟩ := mask_spec ho hb
   have h4 := hd.back j o ho e h1 h2
   rcases h3 with h3 | ⟨h3, h5⟩
   · omega
   · have hlt : e.on < L.length := by have := (List.getElem?_eq_some_iff.1 ho).1; omega
     have := ih e.on h4 _ (List.getElem?_eq_getElem hlt) i h5
     omega
/-- what has been done: all that stands ahead of it, too -/
def Closed (L : List Oper) (D : Nat → Prop) : Prop := ∀ (j : Nat) (o : Oper), L[j]? = some o → D j → ∀ e, e ∈ o.after.toList → Region.binds .any e = true → D e.on
def Ready (L : List Oper) (D : Nat → Prop) (j : Nat) : Prop := ∀ o, L[j]? = some o → ∀ e, e ∈ o.after.toList → Region.binds .any e = true → D e.on
theorem mask_in {L : List Oper} (hd : DrawOk L) {D : Nat → Prop} (hc : Closed L D) : ∀ (j : Nat) (o : Oper), L[j]? = some o → Ready L D j → ∀ i, bitS (maskS L j) i = true → D i := by
 intro j
 induction j using Nat.strongRecOn with
 | ind j ih =>
   intro o ho hr i hb
   obtain ⟨e, h1, h2, h3⟩ := mask_spec ho hb
   have h4 := hr o ho e h1 h2
   rcases h3 with h3 | ⟨h3, h5⟩
   · rw [← h3]; exact h4
   · have hlt : e.on < L.length := by have := (List.getElem?_eq_some_iff.1 ho).1; omega
     have hoe := List.getElem?_eq_getElem hlt
     refine ih e.on h3 _ hoe (fun o' ho' e' he' hb' => hc e.on o' ho' h4 e' he' hb') i h5
end
section
open Go.RowKit
set_option linter.unusedVariables false
set_option linter.unusedSimpArgs false
variable {bs : Inhabited Base}

theorem mapL_congr {α β : Type} {f g : α → β} : ∀ (l : List α), (∀ x, x ∈ l → f x = g x) → mapL f l = mapL g l
 | [], h => rfl
 | x :: r, h => by
   show f x :: mapL f r = g x :: mapL g r
   rw [h x (List.mem_cons_self ..), mapL_congr r (fun y hy => h y (List.mem_cons_of_mem _ hy))]
theorem opt_congr {R R' : Regs} {o : Option Operand} (h : ∀ x, o = some x → evS R x = evS R' x) : o.map (evS R) = o.map (evS R') := by
 cases o with
 | none => rfl
 | some x => simp [h x rfl]
section
variable {P : Program} {H : Hp}
theorem opS_congr {R R' : Regs} {ty : TypeId} (o : Op) (h : ∀ x, x ∈ o.operands.toList → evS R x = evS R' x) : opS P R H ty o = opS P R' H ty o := by
 cases o with
 | move x => simp only [opS]; rw [h x (by simp [Op.operands])]
 | assign x => simp only [opS]; rw [h x (by simp [Op.operands])]
 | pick c a b => simp only [opS]; rw [h c (by simp [Op.operands]), h a (by simp [Op.operands]), h b (by simp [Op.operands])]
 | alloc e => rfl
 | box e x => simp only [opS]; rw [h x (by simp [Op.operands])]
 | build t ps =>
   simp only [opS, partsS]
   rw [mapL_congr (f := fun p => (p.1, evS R p.2)) (g := fun p => (p.1, evS R' p.2)) ps.toList (fun p hp => by
    show (p.1, evS R p.2) = (p.1, evS R' p.2)
    rw [h p.2 (by simp only [Op.operands]; simp; exact ⟨p.1, by simpa using hp⟩)])]
 | buildSlice t n ps =>
   simp only [opS, partsS]
   rw [mapL_congr (f := fun p => (p.1, evS R p.2)) (g := fun p => (p.1, evS R' p.2)) ps.toList (fun p hp => by
    show (p.1, evS R p.2) = (p.1, evS R' p.2)
    rw [h p.2 (by simp only [Op.operands]; simp; exact ⟨p.1, by simpa using hp⟩)])]
 | load t a => simp only [opS]; rw [h a (by simp [Op.operands])]
 | store t a v => simp only [opS]; rw [h a (by simp [Op.operands]), h v (by simp [Op.operands])]
 | nilCheck x => simp only [opS]; rw [h x (by simp [Op.operands])]
 | fieldAddr t x f => simp only [opS]; rw [h x (by simp [Op.operands])]
 | field t x f => simp only [opS]; rw [h x (by simp [Op.operands])]
 | indexAddr t x ix => simp only [opS]; rw [h x (by simp [Op.operands]), h ix (by simp [Op.operands])]
 | slice t x lo hi mx =>
   cases mx with
   | some m => rfl
   | none =>
     simp only [opS, sliceO]
     rw [h x (by simp [Op.operands]), opt_congr (o := lo) (fun y hy => h y (by subst hy; simp [Op.operands])), opt_congr (o := hi) (fun y hy => h y (by subst hy; simp [Op.operands]))]
 | makeSlice t l c => simp only [opS]; rw [h l (by simp [Op.operands]), h c (by simp [Op.operands])]
 | extract x k => simp only [opS]; rw [h x (by simp [Op.operands])]
 | binOp op t x y t2 => simp only [opS]; rw [h x (by simp [Op.operands]), h y (by simp [Op.operands])]
 | unOp op t x => simp only [opS]; rw [h x (by simp [Op.operands])]
 | convert s d x => simp only [opS]; rw [h x (by simp [Op.operands])]
 | index t x ix => simp only [opS]; rw [h x (by simp [Op.operands]), h ix (by simp [Op.operands])]
 | makeMap t hint => rfl
 | lookup t x ix ok => simp only [opS]; rw [h x (by simp [Op.operands]), h ix (by simp [Op.operands])]
 | mapUpdate t m k v => simp only [opS]; rw [h m (by simp [Op.operands]), h k (by simp [Op.operands]), h v (by simp [Op.operands])]
 | call c =>
   have ha := mapL_congr (f := evS R) (g := evS R') c.args.toList (fun x hx => h x (by
    simp only [Op.operands, Call.operands]
    simp; exact .inr (by simpa using hx)))
   simp only [opS]
   unfold callC
   cases hc : c.callee with
   | builtin b => simp only; rw [ha]
   | value f => simp only; rw [ha, h f (by simp [Op.operands, Call.operands, hc])]
   | invoke r m => rfl
 | _ => rfl
theorem rddOf_congr {R R' : Regs} {ban : List Nat} (o : Op) (h : ∀ x, x ∈ o.operands.toList → evS R x = evS R' x) : rddOf H R ban o = rddOf H R' ban o := by
 cases o with
 | load t a => simp only [rddOf]; rw [h a (by simp [Op.operands])]
 | store t a v => simp only [rddOf]; rw [h a (by simp [Op.operands])]
 | _ => rfl
end

/-! ### slots of some names alone -/
noncomputable def unkT : Regs := Nat.rec (motive := fun _ => Regs) .nil (fun _ t => .node (some unknownS) t t) 10
noncomputable def selR (R : Regs) (ts : List Tmp) : Regs := ts.foldr (fun t T => T.set (getR R t) (Nat.succ t)) unkT
theorem unk_get : ∀ (d k : Nat), (Nat.rec (motive := fun _ => Regs) .nil (fun _ t => .node (some unknownS) t t) d : Regs).get k = some unknownS ∨ (Nat.rec (motive := fun _ => Regs) .nil (fun _ t => .node (some unknownS) t t) d : Regs).get k = none
 | 0, k => .inr (Tr.get_nil k)
 | d + 1, k => by
   show (Tr.node (some unknownS) _ _).get k = _ ∨ (Tr.node (some unknownS) _ _).get k = _
   rw [Tr.get_node]
   split
   · exact .inl rfl
   · split
     · exact unk_get d _
     · exact unk_get d _
theorem unk_in : ∀ (d k : Nat), 1 ≤ k → k < 2 ^ d → (Nat.rec (motive := fun _ => Regs) .nil (fun _ t => .node (some unknownS) t t) d : Regs).get k = some unknownS ∧ (Nat.rec (motive := fun _ => Regs) .nil (fun _ t => .node (some unknownS) t t) d : Regs).inb k = true
 | 0, k, h1, h2 => by simp at h2; omega
 | d + 1, k, h1, h2 => by
   show (Tr.node (some unknownS) _ _).get k = _ ∧ (Tr.node (some unknownS) _ _).inb k = true
   rw [Tr.get_node, Tr.inb_node]
   rw [Nat.pow_succ] at h2
   by_cases e : k = 1
   · subst e; simp
   · have h3 := unk_in d (k / 2) (by omega) (by omega)
     rw [if_neg e]
     simp [h3.1, h3.2]
theorem sel_wide (R : Regs) : ∀ ts, Wide (selR R ts)
 | [] => fun t ht => (unk_in 10 (t + 1) (by omega) (by omega)).2
 | t :: r => fun j hj => by
   show ((selR R r).set (getR R t) (Nat.succ t)).inb (j + 1) = true
   rw [Tr.inb_set]; exact sel_wide R r j hj
theorem sel_in (R : Regs) : ∀ (ts : List Tmp) (t : Nat), t ∈ ts → t < 1000 → getR (selR R ts) t = getR R t
 | [], t, h, _ => by cases h
 | x :: r, t, h, ht => by
   show getR ((selR R r).set (getR R x) (Nat.succ x)) t = _
   by_cases e : t = x
   · subst e
     rw [getR_set _ _ _ _ (sel_wide R r t ht), if_pos rfl]
   · have hr : t ∈ r := by
      rcases List.mem_cons.1 h with h | h
      · exact absurd h e
      · exact h
     have : getR ((selR R r).set (getR R x) (Nat.succ x)) t = getR (selR R r) t := by
      unfold getR
      rw [Tr.get_set_other _ _ _ _ (by intro h; exact e (Nat.succ.inj h))]
     rw [this]; exact sel_in R r t hr ht
theorem sel_out (R : Regs) : ∀ (ts : List Tmp) (t : Nat), (t ∈ ts ∧ getR (selR R ts) t = getR R t) ∨ getR (selR R ts) t = unknownS ∨ (getR (selR R ts) t = undefS ∧ 1000 ≤ t)
 | [], t => by
   right
   by_cases h : t < 1000
   · left
     have := (unk_in 10 (t + 1) (by omega) (by omega)).1
     show Option.rec (motive := fun _ => Value) undefS (fun v => v) (unkT.get (Nat.succ t)) = unknownS
     unfold unkT
     rw [this]
   · rcases unk_get 10 (t + 1) with h1 | h1
     · left; show Option.rec (motive := fun _ => Value) undefS (fun v => v) (unkT.get (Nat.succ t)) = unknownS; unfold unkT; rw [h1]
     · right; refine ⟨?_, by omega⟩; show Option.rec (motive := fun _ => Value) undefS (fun v => v) (unkT.get (Nat.succ t)) = undefS; unfold unkT; rw [h1]
 | x :: r, t => by
   show (t ∈ x :: r ∧ getR ((selR R r).set (getR R x) (Nat.succ x)) t = _) ∨ getR ((selR R r).set (getR R x) (Nat.succ x)) t = _ ∨ (getR ((selR R r).set (getR R x) (Nat.succ x)) t = _ ∧ _)
   by_cases e : t = x
   · subst e
     by_cases hb : (selR R r).inb (t + 1) = true
     · left; exact ⟨List.mem_cons_self .., by rw [getR_set _ _ _ _ hb, if_pos rfl]⟩
     · have h0 : ¬ t < 1000 := fun h => hb (sel_wide R r t h)
       have : (selR R r).set (getR R t) (Nat.succ t) = selR R r := by
        exact Tr.set_out _ _ _ (by simpa using hb)
       rw [this]
       rcases sel_out R r t with ⟨h1, h2⟩ | h1 | h1
       · exact .inl ⟨List.mem_cons_of_mem _ h1, h2⟩
       · exact .inr (.inl h1)
       · exact .inr (.inr h1)
   · have : getR ((selR R r).set (getR R x) (Nat.succ x)) t = getR (selR R r) t := by
      unfold getR
      rw [Tr.get_set_other _ _ _ _ (by intro h; exact e (Nat.succ.inj h))]
     rw [this]
     rcases sel_out R r t with ⟨h1, h2⟩ | h1 | h1
     · exact .inl ⟨List.mem_cons_of_mem _ h1, h2⟩
     · exact .inr (.inl h1)
     · exact .inr (.inr h1)
theorem sel_RR {β : Bij} {R : Regs} {tmps : Array Value} (hs : tmps.size ≤ 1000) (ts : List Tmp) (h : ∀ t, t ∈ ts → VR β (getR R t) (tmps.getD t undef)) : RR β (selR R ts) tmps := by
 intro t
 rcases sel_out R ts t with ⟨h1, h2⟩ | h1 | ⟨h1, h2⟩
 · rw [h2]; exact h t h1
 · rw [h1]; exact .any _
 · rw [h1]
   have : tmps.getD t undef = undef := by rw [Array.getD_eq_getD_getElem?, Array.getElem?_eq_none (by omega)]; rfl
   rw [this]; exact VR.undef β
theorem sel_eval {R : Regs} {L : List Oper} {o : Oper} (hs : ∀ t, t ∈ namesOf L o → t < 1000) (x : Operand) (hx : x ∈ o.op.operands.toList) : evS (selR R (namesOf L o)) x = evS R x := by
 cases x with
 | tmp t =>
   have ht : t ∈ namesOf L o := by
    unfold namesOf
    refine List.mem_append_right _ (List.mem_append_left _ ?_)
    rw [List.mem_filterMap]
    exact ⟨.tmp t, hx, rfl⟩
   exact sel_in R _ t ht (hs t ht)
 | const v => rfl
 | global g => rfl
 | func f => rfl

/-! ### values that lead to older blocks alone -/
def VB (n : Nat) (x : Value) : Prop := ∃ β y, (∀ (b : Nat) (k : Bk), β b = some k → b < n) ∧ VR β x y
theorem VR.cut {β : Bij} {n : Nat} {x y : Value} (h : VR β x y) (hb : VB n x) : VR (fun b => if b < n then β b else none) x y := by
 obtain ⟨β0, y0, h0, h1⟩ := hb
 induction h generalizing y0 with
 | any v => exact .any v
 | atom h => exact .atom h
 | ptr h =>
   obtain ⟨k, hk, _⟩ := h1.ptr_inv (sp := none)
   exact .ptr (by simp only [if_pos (h0 _ _ hk)]; exact h)
 | slice h hn hc hz =>
   rename_i b off n' c k
   rcases h1.slice_inv with ⟨e, _⟩ | ⟨e1, a', c', e, _⟩ | ⟨b', off', k', c', e, hk, _⟩
   · cases e
   · cases e
     cases h1 with
     | atom h => cases h
     | slice hk _ _ _ => exact .slice (by simp only [if_pos (h0 _ _ hk)]; exact h) hn hc hz
     | void a c2 =>
       exact .void _ _
   · cases e
     exact .slice (by simp only [if_pos (h0 _ _ hk)]; exact h) hn hc hz
 | map h =>
   obtain ⟨k, hk, _⟩ := h1.map_inv
   exact .map (by simp only [if_pos (h0 _ _ hk)]; exact h)
 | void a c => exact .void a c
 | agg hl h ih =>
   obtain ⟨zs, rfl, hz⟩ := h1.agg_inv
   refine .agg hl (fun i x y hx hy => ?_)
   obtain ⟨u, hu, hv⟩ := hz.get hx
   exact ih i x y hx hy u hv
 | tuple hl h ih =>
   obtain ⟨zs, rfl, hz⟩ := h1.tuple_inv
   refine .tuple hl (fun i x y hx hy => ?_)
   obtain ⟨u, hu, hv⟩ := hz.get hx
   exact ih i x y hx hy u hv
 | func hl h hl' h' ih ih' =>
   obtain ⟨zs, zs', rfl, hz, hz'⟩ := h1.func_inv
   refine .func hl (fun i x y hx hy => ?_) hl' (fun i x y hx hy => ?_)
   · obtain ⟨u, hu, hv⟩ := hz.get hx
     exact ih i x y hx hy u hv
   · obtain ⟨u, hu, hv⟩ := hz'.get hx
     exact ih' i x y hx hy u hv
end
end Go.Proofs.YtnoppoifepbchaaDoor.Sh
