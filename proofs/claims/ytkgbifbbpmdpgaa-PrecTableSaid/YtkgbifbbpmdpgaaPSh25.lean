/- A region that draws its order: steps, start, end. Of no program. -/
import Derived.Test.YtkgbifbbpmdpgaaPSh24
import Derived.Test.YtkgbifbbpmdpgaaRows
import Derived.KernelRfl
set_option linter.unusedVariables false
set_option linter.unusedSimpArgs false
namespace Go.Proofs.Ytkgbifbbpmdpgaa.Sh
section
open Go.RowKit
variable {bs : Inhabited Base}
section
variable {P : Program} {call : FuncId → List Value → Hp → Ret} {L : List Oper} {R0 : Regs} {N : Nat} {β0 : Bij} {w0 : World}
variable {Rs : Nat → Regs} {Hs : Nat → Hp} {V : Nat → Value} {H1 : Nat → Hp} {ex : Nat → Prop} {rd : Nat → Rdd}
variable {D : Nat → Prop} {β : Bij} {a : Act} {w : World} {j : Nat} {o : Oper}
theorem rdd_enter (ban : List Nat) (H : Hp) (R : Regs) (b : List Nat) (op : Op) : rddOf (enterD ban H) R b op = rddOf H R b op := by
 cases op <;> rfl
theorem step_exec (hc : CallOk P call) (T : Trace P call L R0 Rs Hs V H1 ex rd) (F : Facts L R0 β0 Rs Hs V H1 ex) (hd : DrawOk L) (I : Inv L R0 N β0 w0 Hs V H1 ex D β a w) (h0 : Rs 0 = R0) (hw : Wide R0)
  (ho : L[j]? = some o) (hD : ¬ D j) (hr : Ready L D j) (hex : ex j) (hdst : dstOk N o.dst = true) (hb0 : ∀ b k, β0 b = some k → ∃ q, (Hs 0).tr.get b = some q)
  (K : Act → World → Prop) (Q : Exit → Act → World → Prop) (hK : ∀ β' a' w', Inv L R0 N β0 w0 Hs V H1 ex (fun i => D i ∨ i = j) β' a' w' → K a' w') : o.wp P a w K Q := by
 have hj : j < L.length := (List.getElem?_eq_some_iff.1 ho).1
 obtain ⟨_, hrdj, hran, _, _⟩ := T.exec j o ho hex
 have hsel : ∀ x, x ∈ o.op.operands.toList → evS (selR (Rs j) (namesOf L o)) x = evS (Rs j) x := fun x hx => sel_eval (hd.small j o ho) x hx
 have hran' : Ran call (opS P (selR (Rs j) (namesOf L o)) (enterD (banAt L R0 (Hs j) j) (Hs j)) o.type o.op) (V j) (H1 j) := by
  rw [opS_congr o.op hsel]; exact hran
 have hrdd : rddOf (enterD (banAt L R0 (Hs j) j) (Hs j)) (selR (Rs j) (namesOf L o)) (banAt L R0 (Hs j) j) o.op = rd j := by
  rw [rddOf_congr o.op hsel, rdd_enter, hrdj]; rfl
 have hrr := step_regs T F hd I h0 hw ho hD hr
 have hwrd : ∀ g, g ∈ (H1 j).wrote → (rd j).has g = true := by
  intro g hg
  have := ran_wr (P := P) (H := enterD (banAt L R0 (Hs j) j) (Hs j)) hrr o rfl hran' (fun g hg => (F.wr j hj hex g hg).2) g hg
  rw [← hrdd]; exact this
 refine ran_does hc (enter_WF (F.wf j (by omega)) _) (step_HR T F hd I ho) hrr o (fun g hg hb => ?_) hran' K Q (fun β' v' w' hst hv hor hwf => ?_)
 · have hg' : (rd j).has g = true := by rw [← hrdd]; exact hg
   exact step_allowed T F hd I ho hD hr hex hg' hb
 · exact hK _ _ _ (step_inv T F hd I ho hD hr hex hdst hwrd hb0 hst hv hor)
theorem step_skip (T : Trace P call L R0 Rs Hs V H1 ex rd) (F : Facts L R0 β0 Rs Hs V H1 ex) (hd : DrawOk L) (I : Inv L R0 N β0 w0 Hs V H1 ex D β a w)
  (ho : L[j]? = some o) (hD : ¬ D j) (hr : Ready L D j) (hex : ¬ ex j) (hdst : dstOk N o.dst = true) :
  Inv L R0 N β0 w0 Hs V H1 ex (fun i => D i ∨ i = j) β (a.put o.dst undef) w := by
 have hj : j < L.length := (List.getElem?_eq_some_iff.1 ho).1
 obtain ⟨_, hV, _, hH⟩ := T.skip j o ho hex
 have hup : ∀ i, D i → (fun i => D i ∨ i = j) i := fun i h => .inl h
 refine { I with cl := ?_, lt := ?_, rec_ := ?_, root := ?_, row := ?_, reg0 := ?_, reg1 := ?_, size := ?_, top := ?_, defers := ?_, wd := ?_, full := ?_ }
 · rintro i x hx (hDi | rfl) e he hb
   · exact .inl (I.cl i x hx hDi e he hb)
   · exact .inl (hr x hx e he hb)
 · rintro i (h | rfl)
   · exact I.lt i h
   · exact hj
 · intro b k hb
   obtain ⟨q, h1, h2, h3, h4⟩ := I.rec_ b k hb
   exact ⟨q, h1, h2, h3.up hup, h4.up hup⟩
 · rintro i (h | rfl) hei g hg
   · exact (I.root i h hei g hg).up hup
   · exact absurd hei hex
 · intro b k s q hb hs hq hstg hl hbn
   refine I.row b k s q hb hs hq (fun i hi ht => ?_) hl hbn
   rw [← hstg i hi ht]
   refine ⟨.inl, fun h => ?_⟩
   rcases h with h | rfl
   · exact h
   · exact absurd ht.1 hex
 · intro t ht
   rw [put_getD (ht j o (.inr rfl) ho)]
   exact I.reg0 t (fun i x hDi => ht i x (.inl hDi))
 · intro t i x hDi hx hdx hmx
   by_cases hot : o.dst = some t
   · have hij : i = j := by
      rcases hDi with hDi | hDi
      · exfalso
        have h1 := hmx j o (.inr rfl) ho hot
        have h2 : j ≠ i := fun e => by rw [← e] at hDi; exact hD hDi
        have h3 := hd.meet j i x o hx ho (by omega) (.inl ⟨t, hot, dst_named hdx⟩)
        exact hD (mask_in hd I.cl i x hx (fun o' ho' => I.cl i o' ho' hDi) j h3)
      · exact hDi
     subst hij
     have htn : t < N := Nat.le_of_ble_eq_true (by rw [hot] at hdst; exact hdst)
     rw [hot, put_getD_same (Nat.lt_of_lt_of_le htn I.size), hV]
     exact VR.undef β
   · rw [put_getD hot]
     rcases hDi with hDi | rfl
     · exact I.reg1 t i x hDi hx hdx (fun i' o' hi' => hmx i' o' (.inl hi'))
     · rw [ho] at hx; cases hx; exact absurd hdx hot
 · rw [put_size]; exact I.size
 · rw [put_size]; exact I.top
 · rw [put_defers]; exact I.defers
 · rintro i (h | rfl) hei g hg hlt0
   · exact I.wd i h hei g hg hlt0
   · exact absurd hei hex
 · rintro d (h | rfl) b hn
   · exact I.full d h b hn
   · exfalso
     have h1 := hn.1; have h2 := hn.2
     rw [hH] at h2; omega
theorem start_inv (F : Facts L R0 β0 Rs Hs V H1 ex) (h0 : Rs 0 = R0) {a : Act} {w : World} (hs : S N β0 (Rs 0) (Hs 0) a w) : Inv L R0 N β0 w Hs V H1 ex (fun _ => False) β0 a w := by
 refine ⟨fun i x hx h => h.elim, fun i h => h.elim, fun b k hb => (hs.hr.dom b k hb).2.1, fun b k hb => ?_, fun i h => h.elim, fun b b' k k' q q' hb hb' hq hq' e => ?_, fun b k s q hb hsl hq hstg hl hbn => ?_,
  fun t _ => by rw [← h0]; exact hs.rr t, fun t i x h => h.elim, hs.size, hs.top, hs.defers, rfl, rfl, rfl, Nat.le_refl _, Ext.refl _, fun _ _ _ => rfl, fun b k hb => .inl hb, fun i h => h.elim, fun d h => h.elim, fun b k h => ⟨hs.hr.base b k h, (hs.hr.dom b k (hs.hr.base b k h)).1⟩, hs.hr.fix, hs.hr.apart⟩
 · obtain ⟨h1, _, q, h2, h3⟩ := hs.hr.dom b k hb
   obtain ⟨q', h4, h5, h6⟩ := F.same_mono (Nat.zero_le _) (Nat.le_refl _) h2
   refine ⟨q', h4, h5.trans h3, .inl h1, .inl ?_⟩
   have := (hs.wf.grp b q h2).2.1
   omega
 · obtain ⟨_, _, p, h2, _⟩ := hs.hr.dom b k hb
   obtain ⟨_, _, p', h3, _⟩ := hs.hr.dom b' k' hb'
   have e1 := (F.alike (Nat.zero_le _) (Nat.le_refl _) h2 hq).1
   have e2 := (F.alike (Nat.zero_le _) (Nat.le_refl _) h3 hq').1
   rw [← e1, ← e2]
   exact hs.hr.share b b' k k' p p' hb hb' h2 h3 e
 · obtain ⟨_, _, p, h2, _⟩ := hs.hr.dom b k hb
   have e1 := (F.alike (Nat.zero_le _) hsl h2 hq).1
   have hkeep := F.keep_mono (Nat.zero_le s) hsl h2 (fun i _ hi hei hgi => by
    rw [e1] at hgi
    exact (hstg i (by omega) ⟨hei, .inl hgi⟩).2 hi)
   rw [hq] at hkeep
   have e2 : q = p := Option.some.inj hkeep.1
   subst e2
   exact hs.hr.row b k q hb h2 (by rw [← hkeep.2]; exact hl) hbn
theorem Trace.quiet (T : Trace P call L R0 Rs Hs V H1 ex rd) (h0 : Rs 0 = R0) {t : Nat} (ht : ∀ (i : Nat) (o : Oper), L[i]? = some o → o.dst ≠ some t) : ∀ j, j ≤ L.length → getR (Rs j) t = getR R0 t := by
 intro j
 induction j with
 | zero => intro _; rw [h0]
 | succ j ih =>
   intro hj
   have ho := List.getElem?_eq_getElem hj
   generalize L[j] = o at ho
   rw [T.regs ho, ← ih (by omega)]
   cases hdd : o.dst with
   | none => rfl
   | some d =>
     show getR ((Rs j).set (V j) (Nat.succ d)) t = _
     unfold getR
     rw [Tr.get_set_other _ _ _ _ (by intro h; exact ht j o ho (by rw [hdd, Nat.succ.inj h]))]
theorem Facts.born (F : Facts L R0 β0 Rs Hs V H1 ex) {b : Nat} (h : (Hs 0).next ≤ b) : ∀ n, n ≤ L.length → b < (Hs n).next → ∃ d, d < n ∧ New Hs d b := by
 intro n
 induction n with
 | zero => intro _ h2; omega
 | succ n ih =>
   intro hn h2
   rcases Nat.lt_or_ge b (Hs n).next with h3 | h3
   · obtain ⟨d, h4, h5⟩ := ih (by omega) h3
     exact ⟨d, by omega, h5⟩
   · exact ⟨n, by omega, h3, h2⟩
theorem end_inv (T : Trace P call L R0 Rs Hs V H1 ex rd) (F : Facts L R0 β0 Rs Hs V H1 ex) (hd : DrawOk L) (h0 : Rs 0 = R0) (hw : Wide R0) (hN : N ≤ 1000) (I : Inv L R0 N β0 w0 Hs V H1 ex D β a w) (hall : ∀ i, i < L.length → D i) :
  S N β (Rs L.length) (Hs L.length) a w ∧ St β0 (Hs 0) w0 β (Hs L.length) w := by
 have hwf := F.wf L.length (Nat.le_refl _)
 have hban := F.ban L.length (Nat.le_refl _)
 have hrr : RR β (Rs L.length) a.tmps := by
  intro t
  by_cases hx : ∃ (i : Nat) (o : Oper), L[i]? = some o ∧ o.dst = some t
  · obtain ⟨i, o, ho, hdo⟩ := hx
    have ht := hd.small i o ho t (dst_named hdo)
    rcases T.slot h0 hw ht L.length (Nat.le_refl _) with ⟨i, x, h1, h2, h3, h4, h5⟩ | ⟨h1, h2⟩
    · rw [h4]
      exact I.reg1 t i x (hall i h1) h2 h3 (fun i' o' hDi => h5 i' o' (I.lt i' hDi))
    · exact absurd hdo (h1 i o (List.getElem?_eq_some_iff.1 ho).1 ho)
  · have hq : ∀ (i : Nat) (o : Oper), L[i]? = some o → o.dst ≠ some t := fun i o h1 h2 => hx ⟨i, o, h1, h2⟩
    rw [T.quiet h0 hq L.length (Nat.le_refl _)]
    exact I.reg0 t (fun i o _ h1 => hq i o h1)
 have hhr : HR (Ab (Hs L.length).ban) β (Hs L.length) w := by
  refine ⟨fun b k hb => ?_, fun b k q hb hq hl hA => ?_, I.share, fun b k h => (I.low b k h).1, I.fix, I.apart⟩
  · obtain ⟨q, h1, h2, _⟩ := I.rec_ b k hb
    exact ⟨(hwf.pos h1).2, I.blk b k hb, q, h1, h2⟩
  · exact I.row b k L.length q hb (Nat.le_refl _) hq (fun i hi _ => ⟨fun _ => hi, fun _ => hall i hi⟩) hl (by rw [← hban]; exact hA)
 refine ⟨⟨hwf, hhr, hrr, T.wide h0 hw _ (Nat.le_refl _), hN, I.size, I.top, I.defers⟩, ?_⟩
 refine ⟨I.os, I.tape, I.output, I.wsz, I.ext, F.next_mono (Nat.zero_le _) (Nat.le_refl _), F.old _ (Nat.le_refl _), hban, fun g hg => F.wrote_mono (Nat.zero_le _) (Nat.le_refl _) hg, I.block, fun b k hb => ?_, fun b q hq => F.same_mono (Nat.zero_le _) (Nat.le_refl _) hq, fun b q hq h1 h2 => ?_, fun g hg => ?_, fun b h1 h2 => ?_⟩
 · rcases I.new b k hb with h | ⟨h1, q', h2, h3⟩
   · exact .inl h
   · exact .inr ⟨h1, (hwf.pos h2).2, q', h2, h3⟩
 · exact F.keep_mono (Nat.zero_le _) (Nat.le_refl _) hq (fun i _ hi hei hgi => h2 (F.wrote_mono (i := i + 1) (by omega) (Nat.le_refl _) (F.wrote i hi hei _ hgi h1)))
 · rcases F.came_from (Nat.le_refl _) hg with h | ⟨i, h1, h2, h3, h4⟩
   · exact .inl h
   · exact .inr ⟨h4, I.wd i (hall i h1) h2 g h3 h4⟩
 · obtain ⟨d, h3, h4⟩ := F.born h1 L.length (Nat.le_refl _) h2
   exact I.full d (hall d h3) b h4
end
end
section
open Go.RowKit
variable {bs : Inhabited Base}
def Done (listed : Array Bool) (i : Nat) : Prop := listed.getD i false = true
theorem done_set {listed : Array Bool} {j : Nat} (hj : j < listed.size) : (fun i => Done listed i ∨ i = j) = Done (listed.setIfInBounds j true) := by
 funext i
 apply propext
 unfold Done
 rw [Array.getD_eq_getD_getElem?, Array.getD_eq_getD_getElem?, Array.getElem?_setIfInBounds]
 by_cases e : j = i
 · subst e; simp [hj]
 · rw [if_neg e]
   constructor
   · rintro (h | h)
     · exact h
     · exact absurd h.symm e
   · exact .inl
theorem count_set : ∀ (l : List Bool) (j : Nat), l[j]? = some false → (l.set j true).count false + 1 = l.count false
 | [], j, h => by simp at h
 | b :: l, 0, h => by
   simp at h; subst h
   simp
 | b :: l, j + 1, h => by
   have := count_set l j (by simpa using h)
   simp only [List.set_cons_succ, List.count_cons]
   omega
section
variable {P : Program} {call : FuncId → List Value → Hp → Ret} {R0 : Regs} {N : Nat} {β0 : Bij} {w0 : World} {ops : Array Oper}
variable {Rs : Nat → Regs} {Hs : Nat → Hp} {V : Nat → Value} {H1 : Nat → Hp} {ex : Nat → Prop} {rd : Nat → Rdd}
theorem opsOk_dst {N : Nat} : ∀ (l : List Oper), opsOk N l = true → ∀ (j : Nat) (o : Oper), l[j]? = some o → dstOk N o.dst = true := by
 intro l
 induction l with
 | nil => intro _ j o h; simp at h
 | cons x l ih =>
   intro h j o ho
   have h' : cond (dstOk N x.dst) (opsOk N l) false = true := h
   cases hx : dstOk N x.dst with
   | false => rw [hx] at h'; cases h'
   | true =>
     rw [hx] at h'
     cases j with
     | zero => simp at ho; subst ho; exact hx
     | succ j => exact ih h' j o (by simpa using ho)
theorem ready_iff {listed : Array Bool} (hs : listed.size = ops.toList.length) {j : Nat} : j ∈ Region.ready .any ops listed ↔ j < ops.toList.length ∧ ¬ Done listed j ∧ Ready ops.toList (Done listed) j := by
 unfold Region.ready
 rw [List.mem_filter, List.mem_range]
 have hsz : ops.size = ops.toList.length := by simp
 constructor
 · rintro ⟨h1, h2⟩
   obtain ⟨h2, h3⟩ := and_split h2
   have hj : j < ops.toList.length := by omega
   refine ⟨hj, ?_, ?_⟩
   · unfold Done
     intro h4
     rw [Array.getD_eq_getD_getElem?] at h2 h4
     have : listed[j]? = some listed[j] := Array.getElem?_eq_getElem (by omega)
     rw [this] at h2 h4
     simp at h2 h4
     rw [h4] at h2; cases h2
   · intro o ho e he hb
     have ho' : ops[j]? = some o := by rw [← ho]; simp
     rw [ho'] at h3
     simp only [Option.map_some, Option.getD_some] at h3
     rw [← Array.all_toList, List.all_eq_true] at h3
     have := h3 e he
     rw [hb] at this
     simpa [Done] using this
 · rintro ⟨h1, h2, h3⟩
   refine ⟨by omega, ?_⟩
   have ho := List.getElem?_eq_getElem h1
   generalize ops.toList[j] = o at ho
   have ho' : ops[j]? = some o := by rw [← ho]; simp
   rw [ho']
   simp only [Option.map_some, Option.getD_some, Bool.and_eq_true]
   constructor
   · unfold Done at h2
     rw [Array.getD_eq_getD_getElem?] at h2 ⊢
     have : listed[j]? = some listed[j] := Array.getElem?_eq_getElem (by omega)
     rw [this] at h2 ⊢
     simpa using h2
   · rw [← Array.all_toList, List.all_eq_true]
     intro e he
     cases hb : Region.binds .any e with
     | false => rfl
     | true =>
       have := h3 o ho e he hb
       simpa [Done] using this
theorem ready_nil (hd : DrawOk ops.toList) {listed : Array Bool} (hs : listed.size = ops.toList.length) (h : Region.ready .any ops listed = []) : ∀ i, i < ops.toList.length → Done listed i := by
 intro i
 induction i using Nat.strongRecOn with
 | ind i ih =>
   intro hi
   by_cases hD : Done listed i
   · exact hD
   · exfalso
     have : i ∈ Region.ready .any ops listed := (ready_iff hs).2 ⟨hi, hD, fun o ho e he hb => ih e.on (hd.back i o ho e he hb) (by have := hd.back i o ho e he hb; omega)⟩
     rw [h] at this; cases this
theorem any_sound (hc : CallOk P call) (T : Trace P call ops.toList R0 Rs Hs V H1 ex rd) (F : Facts ops.toList R0 β0 Rs Hs V H1 ex) (hd : DrawOk ops.toList) (h0 : Rs 0 = R0) (hw : Wide R0) (hN : N ≤ 1000) (hok : opsOk N ops.toList = true)
  (hb0 : ∀ b k, β0 b = some k → ∃ q, (Hs 0).tr.get b = some q) (Q : Exit → Act → World → Prop)
  (hQ : ∀ β a w, S N β (Rs ops.toList.length) (Hs ops.toList.length) a w → St β0 (Hs 0) w0 β (Hs ops.toList.length) w → Q .normal a w) :
  ∀ (fuel : Nat) (listed : Array Bool) (β : Bij) (a : Act) (w : World), listed.size = ops.toList.length → listed.toList.count false ≤ fuel → Inv ops.toList R0 N β0 w0 Hs V H1 ex (Done listed) β a w → wpAny P .any ops Q fuel listed a w := by
 have fin : ∀ (listed : Array Bool) (β : Bij) (a : Act) (w : World), listed.size = ops.toList.length → Inv ops.toList R0 N β0 w0 Hs V H1 ex (Done listed) β a w → Region.ready .any ops listed = [] → Q .normal a w := by
  intro listed β a w hsz I h
  obtain ⟨h1, h2⟩ := end_inv T F hd h0 hw hN I (ready_nil hd hsz h)
  exact hQ β a w h1 h2
 intro fuel
 induction fuel with
 | zero =>
   intro listed β a w hsz hcn I
   have hr : Region.ready .any ops listed = [] := by
    apply List.eq_nil_iff_forall_not_mem.2
    intro j hj
    obtain ⟨h1, h2, _⟩ := (ready_iff hsz).1 hj
    have h3 : listed.toList.count false = 0 := by omega
    rw [List.count_eq_zero] at h3
    apply h3
    have h4 : listed[j]? = some listed[j] := Array.getElem?_eq_getElem (by omega)
    have h5 : listed[j] = false := by
     unfold Done at h2
     rw [Array.getD_eq_getD_getElem?, h4] at h2
     simpa using h2
    rw [h5] at h4
    exact Array.mem_toList_iff.2 (Array.mem_of_getElem? h4)
   exact ⟨hr, fin listed β a w hsz I hr⟩
 | succ fuel ih =>
   intro listed β a w hsz hcn I
   refine ⟨fin listed β a w hsz I, fun j hj => ?_⟩
   obtain ⟨h1, hD, hr⟩ := (ready_iff hsz).1 hj
   have ho := List.getElem?_eq_getElem h1
   generalize ops.toList[j] = o at ho
   have ho' : ops[j]? = some o := by rw [← ho]; simp
   have hdst := opsOk_dst _ hok j o ho
   have hcount : (listed.setIfInBounds j true).toList.count false ≤ fuel := by
    have h4 : listed[j]? = some listed[j] := Array.getElem?_eq_getElem (by omega)
    have h5 : listed[j] = false := by
     unfold Done at hD
     rw [Array.getD_eq_getD_getElem?, h4] at hD
     simpa using hD
    have h6 : listed.toList[j]? = some false := by
     rw [Array.getElem?_toList, h4, h5]
    have h7 := count_set listed.toList j h6
    have h8 : (listed.setIfInBounds j true).toList = listed.toList.set j true := by simp
    rw [h8]; omega
   have hnext : ∀ β' a' w', Inv ops.toList R0 N β0 w0 Hs V H1 ex (fun i => Done listed i ∨ i = j) β' a' w' → wpAny P .any ops Q fuel (listed.setIfInBounds j true) a' w' := by
    intro β' a' w' I'
    rw [done_set (by omega)] at I'
    exact ih _ β' a' w' (by simpa using hsz) hcount I'
   unfold wpOp
   rw [ho']
   by_cases hex : ex j
   · have hwt := step_wanted T F hd I h0 hw rfl ho hD hr (T.exec j o ho hex).1
     simp only
     rw [hwt, if_pos rfl]
     exact .inl (step_exec hc T F hd I h0 hw ho hD hr hex hdst hb0 _ Q hnext)
   · have hwt := step_wanted T F hd I h0 hw rfl ho hD hr (T.skip j o ho hex).1
     simp only
     rw [hwt, if_neg (by simp)]
     exact hnext _ _ _ (step_skip T F hd I ho hD hr hex hdst)
theorem S.drew {β : Bij} {R : Regs} {H : Hp} {a : Act} {w : World} (h : S N β R H a w) (n : Nat) : S N β R H a { w with drawn := n } :=
 ⟨h.wf, h.hr.world (Nat.le_refl _) (fun _ _ _ => rfl) (fun _ _ _ => rfl), h.rr, h.wide, h.most, h.size, h.top, h.defers⟩
theorem bansF_eq (ops : List Oper) (H : Hp) (R0 : Regs) (j : Nat) (base : List Nat) : ∀ (l : List Oper) (i : Nat), bansF ops H R0 j base (storesL l i) = bansS ops H R0 j base l i := by
 intro l
 induction l with
 | nil => intro i; rfl
 | cons o r ih =>
   intro i
   have e : bansS ops H R0 j base (o :: r) i = (match storeAt H R0 o.op with
    | some b => cond (Nat.beq i j || ordB ops i j) (bansS ops H R0 j base r (Nat.succ i)) (b :: bansS ops H R0 j base r (Nat.succ i))
    | none => bansS ops H R0 j base r (Nat.succ i)) := rfl
   rw [e, ← ih]
   have e2 : storesL (o :: r) i = (match o.op with
    | .store _ a _ => (i, a) :: storesL r (Nat.succ i)
    | _ => storesL r (Nat.succ i)) := rfl
   rw [e2]
   cases o.op <;> rfl
theorem nilN_eq {l : List Nat} (h : nilN l = true) : l = [] := by cases l with | nil => rfl | cons x r => cases h
theorem quietR_eq {r : Rdd} (h : quietR r = true) : r = .none := by cases r <;> first | rfl | cases h
theorem noneIn_none (l : List Nat) : noneIn l .none = true := by
 induction l with
 | nil => rfl
 | cons x r ih => exact ih
theorem apartL_eq (ops : List Oper) (j : Nat) (rd : Rdd) (wr : List Nat) (l : List Seen) : apartL ops j rd wr l = apartS ops j rd wr l := by
 induction l with
 | nil => rfl
 | cons s r ih =>
   show cond ((noneIn s.wr rd && noneIn wr s.rd) || ordB ops s.at_ j) (apartL ops j rd wr r) false = cond (ordB ops s.at_ j || (noneIn s.wr rd && noneIn wr s.rd)) (apartS ops j rd wr r) false
   rw [ih, Bool.or_comm]
theorem apart_quiet (ops : List Oper) (j : Nat) (l : List Seen) : apartS ops j .none [] l = true := by
 induction l with
 | nil => rfl
 | cons s r ih =>
   show cond (ordB ops s.at_ j || (noneIn s.wr .none && true)) (apartS ops j .none [] r) false = true
   rw [noneIn_none, ih]
   cases ordB ops s.at_ j <;> rfl
theorem drawF_eq (call : FuncId → List Value → Hp → Ret) (ops : List Oper) (R0 : Regs) : ∀ (l : List Oper) (j : Nat) (sn' sn : List Seen) (R : Regs) (H : Hp), (∀ j rd wr, apartS ops j rd wr sn' = apartS ops j rd wr sn) →
  drawF P call ops (storesL ops 0) R0 l j sn' R H = drawS P call ops R0 l j sn R H := by
 intro l
 induction l with
 | nil => intro j sn' sn R H _; rfl
 | cons o r ih =>
   intro j sn' sn R H hsn
   have e1 : drawF P call ops (storesL ops 0) R0 (o :: r) j sn' R H = wantS (drawF1 P call ops o (drawF P call ops (storesL ops 0) R0 r (Nat.succ j)) j sn' R H (bansF ops H R0 j H.ban (storesL ops 0))) (drawF P call ops (storesL ops 0) R0 r (Nat.succ j) sn' (putR R undefS o.dst) H) (wantedS ops R o.guard) := rfl
   have e2 : drawS P call ops R0 (o :: r) j sn R H = wantS (nextS call (fun v H' => drawNext ops (rddOf H R (bansS ops H R0 j H.ban ops 0) o.op) o j sn H (fun sn v H => drawS P call ops R0 r (Nat.succ j) sn (putR R v o.dst) H) v H') o.pos (opS P R (enterD (bansS ops H R0 j H.ban ops 0) H) o.type o.op))
    (drawS P call ops R0 r (Nat.succ j) sn (putR R undefS o.dst) H) (wantedS ops R o.guard) := rfl
   rw [e1, e2, bansF_eq, ih (Nat.succ j) sn' sn _ _ hsn]
   congr 1
   unfold drawF1
   congr 1
   funext v H'
   generalize rddOf H R (bansS ops H R0 j H.ban ops 0) o.op = rd
   unfold drawNextF drawNext
   cases hq : (quietR rd && nilN H'.wrote) with
   | true =>
     obtain ⟨h1, h2⟩ := and_split hq
     have h1 := quietR_eq h1
     have h2 := nilN_eq h2
     rw [h1, h2, apart_quiet, cond_t, cond_t]
     refine ih (Nat.succ j) sn' _ _ _ (fun j' rd' wr' => ?_)
     show apartS ops j' rd' wr' sn' = cond (ordB ops j j' || (true && noneIn wr' .none)) (apartS ops j' rd' wr' sn) false
     rw [noneIn_none, hsn]
     cases ordB ops j j' <;> rfl
   | false =>
     rw [cond_f, apartL_eq, hsn]
     congr 1
     refine ih (Nat.succ j) _ _ _ _ (fun j' rd' wr' => ?_)
     show cond (ordB ops j j' || (noneIn H'.wrote rd' && noneIn wr' rd)) (apartS ops j' rd' wr' sn') false = cond (ordB ops j j' || (noneIn H'.wrote rd' && noneIn wr' rd)) (apartS ops j' rd' wr' sn) false
     rw [hsn]
theorem region_ok (hm : P.follows .mixedOrders = true) (hc : CallOk P call) : RegionOk P call := by
 intro N id ops R H e R' H' draw hrun hok β a w hs
 cases draw with
 | false => exact region_plain hc hrun hok hs
 | true =>
   have hrun0 : cond (drawOk ops.toList) (drawF P call ops.toList (storesL ops.toList 0) R ops.toList 0 [] R H) (.bad 90 []) = .ok e R' H' := hrun
   have hrun' : cond (drawOk ops.toList) (drawS P call ops.toList R ops.toList 0 [] R H) (.bad 90 []) = .ok e R' H' := by
    rw [← drawF_eq call ops.toList R ops.toList 0 [] [] R H (fun j rd wr => rfl)]; exact hrun0
   rcases cond_split hrun' with ⟨hdr, hrun2⟩ | ⟨_, h⟩
   · have hd := drawOk_spec hdr
     obtain ⟨rfl, Rs, Hs, V, H1, ex, rd, a1, a2, a3, a4, a5, a6, a7, a8⟩ := trace_of (P := P) (call := call) (L := ops.toList) (R0 := R) ops.toList 0 [] R H e R' H' rfl hrun2
     have T : Trace P call ops.toList R Rs Hs V H1 ex rd := ⟨fun j o ho hx => a5 j o (Nat.zero_le _) ho hx, fun j o ho hx => a6 j o (Nat.zero_le _) ho hx, fun i j hij hj hei hej => a7 i j (Nat.zero_le _) hij (by omega) hei hej⟩
     have hs0 : S N β (Rs 0) (Hs 0) a w := by rw [a1, a2]; exact hs
     have F := facts hc T hok hs0
     rw [Nat.zero_add] at a3 a4
     refine wp_region_any hm ?_
     have hI := start_inv F a1 (hs0.drew (w.drawn + 1))
     have hD0 : (fun _ : Nat => False) = Done (Array.replicate ops.size false) := by
      funext i
      apply propext
      unfold Done
      rw [Array.getD_eq_getD_getElem?, Array.getElem?_replicate]
      constructor
      · exact False.elim
      · intro h; split at h <;> simp at h
     rw [hD0] at hI
     refine any_sound hc T F hd a1 hs.wide hs.most hok (fun b k hb => let ⟨_, _, q, hq, _⟩ := hs0.hr.dom b k hb; ⟨q, hq⟩) _ (fun β' a' w' h1 h2 => ?_) ops.size _ β a _ (by simp) (by simp) hI
     rw [a3, a4] at h1
     rw [a4, a2] at h2
     exact ⟨trivial, β', ⟨h2.os, h2.tape, h2.output, h2.size, h2.ext, h2.next, h2.old, h2.ban, h2.wrote, h2.block, h2.new, h2.same, h2.keep, h2.wdom, h2.full⟩, h1⟩
   · cases h
end
end
section
open Go.RowKit
variable {bs : Inhabited Base}
noncomputable section
end
section
variable {P : Program} {A : Nat → Prop} {β : Bij} {H : Hp} {w w' : World}
variable {T U : TypeId} {ck st : FuncId}
end
end
section
open Go.RowKit
theorem mixed : Try.prog.follows .mixedOrders = true := by kernel_rfl
def okT : Ret → Bool
 | .ok (.bool true) _ => true
 | _ => false
theorem okT_inv {r : Ret} (h : okT r = true) : ∃ H, r = .ok (.bool true) H := by
 unfold okT at h
 split at h
 · exact ⟨_, rfl⟩
 · cases h
theorem run_true (n : Nat) (f : FuncId) (h : okT (callF Try.prog n f [] Hp.none) = true) (w : World) : Calls Try.prog f #[] w fun e w' => e = .returned (.bool true) ∧ Below w.heap.size w w' := by
 obtain ⟨H, h1⟩ := okT_inv h
 letI : Inhabited Base := ⟨⟨fun _ => none, fun _ => none⟩⟩
 exact run_sound (fun _ => rfl) (fun _ => rfl) XOk.none (fun call hc => region_ok mixed hc) n f [] (fun x hx => by cases hx) (.bool true) H rfl h1 w
end
end Go.Proofs.Ytkgbifbbpmdpgaa.Sh
