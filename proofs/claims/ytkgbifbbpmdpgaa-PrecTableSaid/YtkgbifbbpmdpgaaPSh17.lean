/- A region that draws its order: what an operation names; values of older blocks. Of no program. -/
import Derived.Test.YtkgbifbbpmdpgaaPSh15
set_option linter.unusedVariables false
set_option linter.unusedSimpArgs false
namespace Go.Proofs.Ytkgbifbbpmdpgaa.Sh
section
open Go.RowKit
variable {bs : Inhabited Base}
theorem mapL_congr {α β : Type} {f g : α → β} : ∀ (l : List α), (∀ x, x ∈ l → f x = g x) → mapL f l = mapL g l
 | [], h => rfl
 | x :: r, h => by
   show f x :: mapL f r = g x :: mapL g r
   rw [h x (List.mem_cons_self ..), mapL_congr r (fun y hy => h y (List.mem_cons_of_mem _ hy))]
theorem opt_congr {R R' : Regs} {o : Option Operand} (h : ∀ x, o = some x → evS R x = evS R' x) : o.map (evS R) = o.map (evS R') := by
 cases o with
 | none => rfl
 | some x => simp [h x rfl]
section
variable {P : Program} {H : Hp}
theorem opS_congr {R R' : Regs} {ty : TypeId} (o : Op) (h : ∀ x, x ∈ o.operands.toList → evS R x = evS R' x) : opS P R H ty o = opS P R' H ty o := by
 cases o with
 | move x => simp only [opS]; rw [h x (by simp [Op.operands])]
 | assign x => simp only [opS]; rw [h x (by simp [Op.operands])]
 | pick c a b => simp only [opS]; rw [h c (by simp [Op.operands]), h a (by simp [Op.operands]), h b (by simp [Op.operands])]
 | alloc e => rfl
 | box e x => simp only [opS]; rw [h x (by simp [Op.operands])]
 | build t ps =>
   simp only [opS, partsS]
   rw [mapL_congr (f := fun p => (p.1, evS R p.2)) (g := fun p => (p.1, evS R' p.2)) ps.toList (fun p hp => by
    show (p.1, evS R p.2) = (p.1, evS R' p.2)
    rw [h p.2 (by simp only [Op.operands]; simp; exact ⟨p.1, by simpa using hp⟩)])]
 | buildSlice t n ps =>
   simp only [opS, partsS]
   rw [mapL_congr (f := fun p => (p.1, evS R p.2)) (g := fun p => (p.1, evS R' p.2)) ps.toList (fun p hp => by
    show (p.1, evS R p.2) = (p.1, evS R' p.2)
    rw [h p.2 (by simp only [Op.operands]; simp; exact ⟨p.1, by simpa using hp⟩)])]
 | load t a => simp only [opS]; rw [h a (by simp [Op.operands])]
 | store t a v => simp only [opS]; rw [h a (by simp [Op.operands]), h v (by simp [Op.operands])]
 | nilCheck x => simp only [opS]; rw [h x (by simp [Op.operands])]
 | fieldAddr t x f => simp only [opS]; rw [h x (by simp [Op.operands])]
 | field t x f => simp only [opS]; rw [h x (by simp [Op.operands])]
 | indexAddr t x ix => simp only [opS]; rw [h x (by simp [Op.operands]), h ix (by simp [Op.operands])]
 | slice t x lo hi mx =>
   cases mx with
   | some m => rfl
   | none =>
     simp only [opS, sliceO]
     rw [h x (by simp [Op.operands]), opt_congr (o := lo) (fun y hy => h y (by subst hy; simp [Op.operands])), opt_congr (o := hi) (fun y hy => h y (by subst hy; simp [Op.operands]))]
 | makeSlice t l c => simp only [opS]; rw [h l (by simp [Op.operands]), h c (by simp [Op.operands])]
 | extract x k => simp only [opS]; rw [h x (by simp [Op.operands])]
 | binOp op t x y t2 => simp only [opS]; rw [h x (by simp [Op.operands]), h y (by simp [Op.operands])]
 | unOp op t x => simp only [opS]; rw [h x (by simp [Op.operands])]
 | convert s d x => simp only [opS]; rw [h x (by simp [Op.operands])]
 | index t x ix => simp only [opS]; rw [h x (by simp [Op.operands]), h ix (by simp [Op.operands])]
 | makeMap t hint => rfl
 | lookup t x ix ok => simp only [opS]; rw [h x (by simp [Op.operands]), h ix (by simp [Op.operands])]
 | mapUpdate t m k v => simp only [opS]; rw [h m (by simp [Op.operands]), h k (by simp [Op.operands]), h v (by simp [Op.operands])]
 | call c =>
   have ha := mapL_congr (f := evS R) (g := evS R') c.args.toList (fun x hx => h x (by
    simp only [Op.operands, Call.operands]
    simp; exact .inr (by simpa using hx)))
   simp only [opS]
   unfold callC
   cases hc : c.callee with
   | builtin b => simp only; rw [ha]
   | value f => simp only; rw [ha, h f (by simp [Op.operands, Call.operands, hc])]
   | invoke r m => rfl
 | _ => rfl
theorem rddOf_congr {R R' : Regs} {ban : List Nat} (o : Op) (h : ∀ x, x ∈ o.operands.toList → evS R x = evS R' x) : rddOf H R ban o = rddOf H R' ban o := by
 cases o with
 | load t a => simp only [rddOf]; rw [h a (by simp [Op.operands])]
 | store t a v => simp only [rddOf]; rw [h a (by simp [Op.operands])]
 | _ => rfl
end
noncomputable def unkT : Regs := Nat.rec (motive := fun _ => Regs) .nil (fun _ t => .node (some unknownS) t t) 10
noncomputable def selR (R : Regs) (ts : List Tmp) : Regs := ts.foldr (fun t T => T.set (getR R t) (Nat.succ t)) unkT
theorem unk_get : ∀ (d k : Nat), (Nat.rec (motive := fun _ => Regs) .nil (fun _ t => .node (some unknownS) t t) d : Regs).get k = some unknownS ∨ (Nat.rec (motive := fun _ => Regs) .nil (fun _ t => .node (some unknownS) t t) d : Regs).get k = none
 | 0, k => .inr (Tr.get_nil k)
 | d + 1, k => by
   show (Tr.node (some unknownS) _ _).get k = _ ∨ (Tr.node (some unknownS) _ _).get k = _
   rw [Tr.get_node]
   split
   · exact .inl rfl
   · split
     · exact unk_get d _
     · exact unk_get d _
theorem unk_in : ∀ (d k : Nat), 1 ≤ k → k < 2 ^ d → (Nat.rec (motive := fun _ => Regs) .nil (fun _ t => .node (some unknownS) t t) d : Regs).get k = some unknownS ∧ (Nat.rec (motive := fun _ => Regs) .nil (fun _ t => .node (some unknownS) t t) d : Regs).inb k = true
 | 0, k, h1, h2 => by simp at h2; omega
 | d + 1, k, h1, h2 => by
   show (Tr.node (some unknownS) _ _).get k = _ ∧ (Tr.node (some unknownS) _ _).inb k = true
   rw [Tr.get_node, Tr.inb_node]
   rw [Nat.pow_succ] at h2
   by_cases e : k = 1
   · subst e; simp
   · have h3 := unk_in d (k / 2) (by omega) (by omega)
     rw [if_neg e]
     simp [h3.1, h3.2]
theorem sel_wide (R : Regs) : ∀ ts, Wide (selR R ts)
 | [] => fun t ht => (unk_in 10 (t + 1) (by omega) (by omega)).2
 | t :: r => fun j hj => by
   show ((selR R r).set (getR R t) (Nat.succ t)).inb (j + 1) = true
   rw [Tr.inb_set]; exact sel_wide R r j hj
theorem sel_in (R : Regs) : ∀ (ts : List Tmp) (t : Nat), t ∈ ts → t < 1000 → getR (selR R ts) t = getR R t
 | [], t, h, _ => by cases h
 | x :: r, t, h, ht => by
   show getR ((selR R r).set (getR R x) (Nat.succ x)) t = _
   by_cases e : t = x
   · subst e
     rw [getR_set _ _ _ _ (sel_wide R r t ht), if_pos rfl]
   · have hr : t ∈ r := by
      rcases List.mem_cons.1 h with h | h
      · exact absurd h e
      · exact h
     have : getR ((selR R r).set (getR R x) (Nat.succ x)) t = getR (selR R r) t := by
      unfold getR
      rw [Tr.get_set_other _ _ _ _ (by intro h; exact e (Nat.succ.inj h))]
     rw [this]; exact sel_in R r t hr ht
theorem sel_out (R : Regs) : ∀ (ts : List Tmp) (t : Nat), (t ∈ ts ∧ getR (selR R ts) t = getR R t) ∨ getR (selR R ts) t = unknownS ∨ (getR (selR R ts) t = undefS ∧ 1000 ≤ t)
 | [], t => by
   right
   by_cases h : t < 1000
   · left
     have := (unk_in 10 (t + 1) (by omega) (by omega)).1
     show Option.rec (motive := fun _ => Value) undefS (fun v => v) (unkT.get (Nat.succ t)) = unknownS
     unfold unkT
     rw [this]
   · rcases unk_get 10 (t + 1) with h1 | h1
     · left; show Option.rec (motive := fun _ => Value) undefS (fun v => v) (unkT.get (Nat.succ t)) = unknownS; unfold unkT; rw [h1]
     · right; refine ⟨?_, by omega⟩; show Option.rec (motive := fun _ => Value) undefS (fun v => v) (unkT.get (Nat.succ t)) = undefS; unfold unkT; rw [h1]
 | x :: r, t => by
   show (t ∈ x :: r ∧ getR ((selR R r).set (getR R x) (Nat.succ x)) t = _) ∨ getR ((selR R r).set (getR R x) (Nat.succ x)) t = _ ∨ (getR ((selR R r).set (getR R x) (Nat.succ x)) t = _ ∧ _)
   by_cases e : t = x
   · subst e
     by_cases hb : (selR R r).inb (t + 1) = true
     · left; exact ⟨List.mem_cons_self .., by rw [getR_set _ _ _ _ hb, if_pos rfl]⟩
     · have h0 : ¬ t < 1000 := fun h => hb (sel_wide R r t h)
       have : (selR R r).set (getR R t) (Nat.succ t) = selR R r := by
        exact Tr.set_out _ _ _ (by simpa using hb)
       rw [this]
       rcases sel_out R r t with ⟨h1, h2⟩ | h1 | h1
       · exact .inl ⟨List.mem_cons_of_mem _ h1, h2⟩
       · exact .inr (.inl h1)
       · exact .inr (.inr h1)
   · have : getR ((selR R r).set (getR R x) (Nat.succ x)) t = getR (selR R r) t := by
      unfold getR
      rw [Tr.get_set_other _ _ _ _ (by intro h; exact e (Nat.succ.inj h))]
     rw [this]
     rcases sel_out R r t with ⟨h1, h2⟩ | h1 | h1
     · exact .inl ⟨List.mem_cons_of_mem _ h1, h2⟩
     · exact .inr (.inl h1)
     · exact .inr (.inr h1)
theorem sel_RR {β : Bij} {R : Regs} {tmps : Array Value} (hs : tmps.size ≤ 1000) (ts : List Tmp) (h : ∀ t, t ∈ ts → VR β (getR R t) (tmps.getD t undef)) : RR β (selR R ts) tmps := by
 intro t
 rcases sel_out R ts t with ⟨h1, h2⟩ | h1 | ⟨h1, h2⟩
 · rw [h2]; exact h t h1
 · rw [h1]; exact .any _
 · rw [h1]
   have : tmps.getD t undef = undef := by rw [Array.getD_eq_getD_getElem?, Array.getElem?_eq_none (by omega)]; rfl
   rw [this]; exact VR.undef β
theorem sel_eval {R : Regs} {L : List Oper} {o : Oper} (hs : ∀ t, t ∈ namesOf L o → t < 1000) (x : Operand) (hx : x ∈ o.op.operands.toList) : evS (selR R (namesOf L o)) x = evS R x := by
 cases x with
 | tmp t =>
   have ht : t ∈ namesOf L o := by
    unfold namesOf
    refine List.mem_append_right _ (List.mem_append_left _ ?_)
    rw [List.mem_filterMap]
    exact ⟨.tmp t, hx, rfl⟩
   exact sel_in R _ t ht (hs t ht)
 | const v => rfl
 | global g => rfl
 | func f => rfl
def VB (n : Nat) (x : Value) : Prop := ∃ β y, (∀ (b : Nat) (k : Bk), β b = some k → b < n) ∧ VR β x y
theorem VR.cut {β : Bij} {n : Nat} {x y : Value} (h : VR β x y) (hb : VB n x) : VR (fun b => if b < n then β b else none) x y := by
 obtain ⟨β0, y0, h0, h1⟩ := hb
 induction h generalizing y0 with
 | any v => exact .any v
 | atom h => exact .atom h
 | ptr h =>
   obtain ⟨k, hk, _⟩ := h1.ptr_inv (sp := none)
   exact .ptr (by simp only [if_pos (h0 _ _ hk)]; exact h)
 | slice h hn hc hz =>
   rename_i b off n' c k
   rcases h1.slice_inv with ⟨e, _⟩ | ⟨e1, a', c', e, _⟩ | ⟨b', off', k', c', e, hk, _⟩
   · cases e
   · cases e
     cases h1 with
     | atom h => cases h
     | slice hk _ _ _ => exact .slice (by simp only [if_pos (h0 _ _ hk)]; exact h) hn hc hz
     | void a c2 =>
       exact .void _ _
   · cases e
     exact .slice (by simp only [if_pos (h0 _ _ hk)]; exact h) hn hc hz
 | map h =>
   obtain ⟨k, hk, _⟩ := h1.map_inv
   exact .map (by simp only [if_pos (h0 _ _ hk)]; exact h)
 | void a c => exact .void a c
 | agg hl h ih =>
   obtain ⟨zs, rfl, hz⟩ := h1.agg_inv
   refine .agg hl (fun i x y hx hy => ?_)
   obtain ⟨u, hu, hv⟩ := hz.get hx
   exact ih i x y hx hy u hv
 | tuple hl h ih =>
   obtain ⟨zs, rfl, hz⟩ := h1.tuple_inv
   refine .tuple hl (fun i x y hx hy => ?_)
   obtain ⟨u, hu, hv⟩ := hz.get hx
   exact ih i x y hx hy u hv
 | func hl h hl' h' ih ih' =>
   obtain ⟨zs, zs', rfl, hz, hz'⟩ := h1.func_inv
   refine .func hl (fun i x y hx hy => ?_) hl' (fun i x y hx hy => ?_)
   · obtain ⟨u, hu, hv⟩ := hz.get hx
     exact ih i x y hx hy u hv
   · obtain ⟨u, hu, hv⟩ := hz'.get hx
     exact ih' i x y hx hy u hv
end
section
open Go.RowKit
variable {bs : Inhabited Base}
def Ran (call : FuncId → List Value → Hp → Ret) (n : Nx) (v : Value) (H' : Hp) : Prop :=
 n = .val v H' ∨ (n = .skip H' ∧ v = undefS) ∨ ∃ f args H2, n = .enter f args H2 ∧ call f args H2 = .ok v H'
noncomputable def banAt (L : List Oper) (R0 : Regs) (H : Hp) (j : Nat) : List Nat := bansS L H R0 j H.ban L 0
noncomputable def rdAt (L : List Oper) (R0 R : Regs) (H : Hp) (j : Nat) (o : Oper) : Rdd := rddOf H R (banAt L R0 H j) o.op
structure Trace (P : Program) (call : FuncId → List Value → Hp → Ret) (L : List Oper) (R0 : Regs) (Rs : Nat → Regs) (Hs : Nat → Hp) (V : Nat → Value) (H1 : Nat → Hp) (ex : Nat → Prop) (rd : Nat → Rdd) : Prop where
 skip : ∀ (j : Nat) (o : Oper), L[j]? = some o → ¬ ex j → wantedS L (Rs j) o.guard = some false ∧ V j = undefS ∧ Rs (j + 1) = putR (Rs j) undefS o.dst ∧ Hs (j + 1) = Hs j
 exec : ∀ (j : Nat) (o : Oper), L[j]? = some o → ex j → wantedS L (Rs j) o.guard = some true ∧ rd j = rdAt L R0 (Rs j) (Hs j) j o ∧ Ran call (opS P (Rs j) (enterD (banAt L R0 (Hs j) j) (Hs j)) o.type o.op) (V j) (H1 j) ∧
  Rs (j + 1) = putR (Rs j) (V j) o.dst ∧ Hs (j + 1) = leaveD (Hs j) (H1 j)
 apart : ∀ (i j : Nat), i < j → j < L.length → ex i → ex j → ordB L i j = true ∨ (noneIn (H1 i).wrote (rd j) = true ∧ noneIn (H1 j).wrote (rd i) = true)
theorem apart_mem {L : List Oper} {j : Nat} {r : Rdd} {wr : List Nat} : ∀ {sn : List Seen}, apartS L j r wr sn = true → ∀ s, s ∈ sn → ordB L s.at_ j = true ∨ (noneIn s.wr r = true ∧ noneIn wr s.rd = true)
 | [], _, s, hs => by cases hs
 | x :: sn, h, s, hs => by
   have h' : cond (ordB L x.at_ j || (noneIn x.wr r && noneIn wr x.rd)) (apartS L j r wr sn) false = true := h
   cases hx : (ordB L x.at_ j || (noneIn x.wr r && noneIn wr x.rd)) with
   | false => rw [hx] at h'; cases h'
   | true =>
     rw [hx] at h'
     rcases List.mem_cons.1 hs with rfl | hs
     · rcases Bool.or_eq_true_iff.1 hx with h1 | h1
       · exact .inl h1
       · exact .inr (and_split h1)
     · exact apart_mem h' s hs
section
variable {P : Program} {call : FuncId → List Value → Hp → Ret} {L : List Oper} {R0 : Regs}
theorem trace_of : ∀ (l : List Oper) (k : Nat) (sn : List Seen) (R : Regs) (H : Hp) (e : Ex) (R' : Regs) (H' : Hp), L.drop k = l → drawS P call L R0 l k sn R H = .ok e R' H' →
  e = .normal ∧ ∃ (Rs : Nat → Regs) (Hs : Nat → Hp) (V : Nat → Value) (H1 : Nat → Hp) (ex : Nat → Prop) (rd : Nat → Rdd), Rs k = R ∧ Hs k = H ∧ Rs (k + l.length) = R' ∧ Hs (k + l.length) = H' ∧
   (∀ (j : Nat) (o : Oper), k ≤ j → L[j]? = some o → ¬ ex j → wantedS L (Rs j) o.guard = some false ∧ V j = undefS ∧ Rs (j + 1) = putR (Rs j) undefS o.dst ∧ Hs (j + 1) = Hs j) ∧
   (∀ (j : Nat) (o : Oper), k ≤ j → L[j]? = some o → ex j → wantedS L (Rs j) o.guard = some true ∧ rd j = rdAt L R0 (Rs j) (Hs j) j o ∧ Ran call (opS P (Rs j) (enterD (banAt L R0 (Hs j) j) (Hs j)) o.type o.op) (V j) (H1 j) ∧
     Rs (j + 1) = putR (Rs j) (V j) o.dst ∧ Hs (j + 1) = leaveD (Hs j) (H1 j)) ∧
   (∀ (i j : Nat), k ≤ i → i < j → j < k + l.length → ex i → ex j → ordB L i j = true ∨ (noneIn (H1 i).wrote (rd j) = true ∧ noneIn (H1 j).wrote (rd i) = true)) ∧
   (∀ (j : Nat), k ≤ j → j < k + l.length → ex j → ∀ s, s ∈ sn → ordB L s.at_ j = true ∨ (noneIn s.wr (rd j) = true ∧ noneIn (H1 j).wrote s.rd = true)) := by
 intro l
 induction l with
 | nil =>
   intro k sn R H e R' H' hk hrun
   cases hrun
   have hlen : L.length ≤ k := by
    have := congrArg List.length hk
    simp at this; omega
   refine ⟨rfl, fun _ => R, fun _ => H, fun _ => undefS, fun _ => H, fun _ => False, fun _ => .none, rfl, rfl, rfl, rfl, ?_, ?_, ?_, ?_⟩
   · intro j o hj ho; have := (List.getElem?_eq_some_iff.1 ho).1; omega
   · intro j o hj ho; have := (List.getElem?_eq_some_iff.1 ho).1; omega
   · intro i j _ _ h; simp at h; omega
   · intro j hj h; simp at h; omega
 | cons o l ih =>
   intro k sn R H e R' H' hk hrun
   have hk' : L.drop (k + 1) = l := by
    have := congrArg List.tail hk
    rw [List.tail_drop] at this; exact this
   have ho : L[k]? = some o := by
    have := congrArg List.head? hk
    rw [List.head?_drop] at this
    simpa using this
   have hrun' : wantS (nextS call (fun v H' => drawNext L (rddOf H R (bansS L H R0 k H.ban L 0) o.op) o k sn H (fun sn v H => drawS P call L R0 l (Nat.succ k) sn (putR R v o.dst) H) v H') o.pos (opS P R (enterD (bansS L H R0 k H.ban L 0) H) o.type o.op))
     (drawS P call L R0 l (Nat.succ k) sn (putR R undefS o.dst) H) (wantedS L R o.guard) = .ok e R' H' := hrun
   cases hw : wantedS L R o.guard with
   | none => rw [hw] at hrun'; cases hrun'
   | some t =>
     rw [hw] at hrun'
     cases t with
     | false =>
       obtain ⟨he, Rs, Hs, V, H1, ex, rd, a1, a2, a3, a4, a5, a6, a7, a8⟩ := ih (k + 1) sn _ H e R' H' hk' hrun'
       refine ⟨he, fun i => if i = k then R else Rs i, fun i => if i = k then H else Hs i, fun i => if i = k then undefS else V i, H1, fun i => i ≠ k ∧ ex i, rd, by simp, by simp, ?_, ?_, ?_, ?_, ?_, ?_⟩
       · simp only [List.length_cons]; rw [if_neg (by omega)]; rw [show k + (l.length + 1) = k + 1 + l.length by omega]; exact a3
       · simp only [List.length_cons]; rw [if_neg (by omega)]; rw [show k + (l.length + 1) = k + 1 + l.length by omega]; exact a4
       · intro j x hj hx hex
         by_cases e1 : j = k
         · subst e1
           rw [ho] at hx; cases hx
           simp only [if_pos, if_neg (show ¬ j + 1 = j by omega)]
           exact ⟨hw, trivial, a1, a2⟩
         · simp only [if_neg e1, if_neg (show ¬ j + 1 = k by omega)]
           exact a5 j x (by omega) hx (fun h => hex ⟨e1, h⟩)
       · intro j x hj hx hex
         simp only [if_neg hex.1, if_neg (show ¬ j + 1 = k by omega)]
         exact a6 j x (by have := hex.1; omega) hx hex.2
       · intro i j hi hij hj hei hej
         simp only [List.length_cons] at hj
         exact a7 i j (by have := hei.1; omega) hij (by omega) hei.2 hej.2
       · intro j hj hjl hej s hs
         simp only [List.length_cons] at hjl
         exact a8 j (by have := hej.1; omega) (by omega) hej.2 s hs
     | true =>
       have hgo : ∃ v H2, Ran call (opS P R (enterD (bansS L H R0 k H.ban L 0) H) o.type o.op) v H2 ∧ drawNext L (rddOf H R (bansS L H R0 k H.ban L 0) o.op) o k sn H (fun sn v H => drawS P call L R0 l (Nat.succ k) sn (putR R v o.dst) H) v H2 = .ok e R' H' := by
        have h2 : nextS call (fun v H' => drawNext L (rddOf H R (bansS L H R0 k H.ban L 0) o.op) o k sn H (fun sn v H => drawS P call L R0 l (Nat.succ k) sn (putR R v o.dst) H) v H') o.pos (opS P R (enterD (bansS L H R0 k H.ban L 0) H) o.type o.op) = .ok e R' H' := hrun'
        cases hop : opS P R (enterD (bansS L H R0 k H.ban L 0) H) o.type o.op with
        | val v H2 => rw [hop] at h2; exact ⟨v, H2, .inl rfl, h2⟩
        | skip H2 => rw [hop] at h2; exact ⟨undefS, H2, .inr (.inl ⟨rfl, rfl⟩), h2⟩
        | enter f args H3 =>
          rw [hop] at h2
          have h3 : (match call f args H3 with | .ok v H' => drawNext L (rddOf H R (bansS L H R0 k H.ban L 0) o.op) o k sn H (fun sn v H => drawS P call L R0 l (Nat.succ k) sn (putR R v o.dst) H) v H' | .bad why l => .bad why (o.pos :: l)) = .ok e R' H' := (nextS_enter ..).symm.trans h2
          cases hcl : call f args H3 with
          | bad n l => rw [hcl] at h3; cases h3
          | ok v H2 => rw [hcl] at h3; exact ⟨v, H2, .inr (.inr ⟨f, args, H3, rfl, hcl⟩), h3⟩
        | bad n => rw [hop] at h2; cases h2
       obtain ⟨v, H2, hran, hdn⟩ := hgo
       unfold drawNext at hdn
       obtain ⟨hap, hdn⟩ := (cond_split hdn).resolve_right (fun h => by cases h.2)
       obtain ⟨he, Rs, Hs, V, H1, ex, rd, a1, a2, a3, a4, a5, a6, a7, a8⟩ := ih (k + 1) _ _ _ e R' H' hk' hdn
       refine ⟨he, fun i => if i = k then R else Rs i, fun i => if i = k then H else Hs i, fun i => if i = k then v else V i, fun i => if i = k then H2 else H1 i, fun i => i = k ∨ ex i ∧ i ≠ k, fun i => if i = k then rddOf H R (bansS L H R0 k H.ban L 0) o.op else rd i, by simp, by simp, ?_, ?_, ?_, ?_, ?_, ?_⟩
       · simp only [List.length_cons]; rw [if_neg (by omega)]; rw [show k + (l.length + 1) = k + 1 + l.length by omega]; exact a3
       · simp only [List.length_cons]; rw [if_neg (by omega)]; rw [show k + (l.length + 1) = k + 1 + l.length by omega]; exact a4
       · intro j x hj hx hex
         have e1 : j ≠ k := fun e1 => hex (.inl e1)
         simp only [if_neg e1, if_neg (show ¬ j + 1 = k by omega)]
         exact a5 j x (by omega) hx (fun h => hex (.inr ⟨h, e1⟩))
       · intro j x hj hx hex
         by_cases e1 : j = k
         · subst e1
           rw [ho] at hx; cases hx
           simp only [if_pos, if_neg (show ¬ j + 1 = j by omega)]
           exact ⟨hw, rfl, hran, a1, a2⟩
         · simp only [if_neg e1, if_neg (show ¬ j + 1 = k by omega)]
           exact a6 j x (by omega) hx (hex.elim (fun h => absurd h e1) (fun h => h.1))
       · intro i j hi hij hj hei hej
         simp only [List.length_cons] at hj
         have ej : j ≠ k := by omega
         have hej' := hej.elim (fun h => absurd h ej) (fun h => h.1)
         by_cases ei : i = k
         · subst ei
           simp only [if_pos, if_neg ej]
           exact a8 j (by omega) (by omega) hej' ⟨i, rddOf H R (bansS L H R0 i H.ban L 0) o.op, H2.wrote⟩ (List.mem_cons_self ..)
         · simp only [if_neg ei, if_neg ej]
           exact a7 i j (by omega) hij (by omega) (hei.elim (fun h => absurd h ei) (fun h => h.1)) hej'
       · intro j hj hjl hej s hs
         simp only [List.length_cons] at hjl
         by_cases ej : j = k
         · subst ej
           simp only [if_pos]
           exact apart_mem hap s hs
         · simp only [if_neg ej]
           exact a8 j (by omega) (by omega) (hej.elim (fun h => absurd h ej) (fun h => h.1)) s (List.mem_cons_of_mem _ hs)
end
end
end Go.Proofs.Ytkgbifbbpmdpgaa.Sh
