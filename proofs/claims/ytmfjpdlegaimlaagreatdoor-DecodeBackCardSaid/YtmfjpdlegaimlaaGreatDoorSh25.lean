/- A region that draws its order: steps, start, end. Of no program. -/
import Derived.Test.YtmfjpdlegaimlaaGreatDoorSh24
namespace Go.Proofs.YtmfjpdlegaimlaaGreatDoor
open Go.RowKit
set_option linter.unusedVariables false
set_option linter.unusedSimpArgs false
variable {bs : Inhabited Base}

section
variable {P : Program} {call : FuncId → List Value → Hp → Ret} {L : List Oper} {R0 : Regs} {N : Nat} {β0 : Bij} {w0 : World}
variable {Rs : Nat → Regs} {Hs : Nat → Hp} {V : Nat → Value} {H1 : Nat → Hp} {ex : Nat → Prop} {rd : Nat → Rdd}
variable {D : Nat → Prop} {β : Bij} {a : Act} {w : World} {j : Nat} {o : Oper}
theorem rdd_enter (ban : List Nat) (H : Hp) (R : Regs) (b : List Nat) (op : Op) : rddOf (enterD ban H) R b op = rddOf H R b op := by
  cases op <;> rfl
theorem step_exec (hc : CallOk P call) (T : Trace P call L R0 Rs Hs V H1 ex rd) (F : Facts L R0 β0 Rs Hs V H1 ex) (hd : DrawOk L) (I : Inv L R0 N β0 w0 Hs V H1 ex D β a w) (h0 : Rs 0 = R0) (hw : Wide R0)
    (ho : L[j]? = some o) (hD : ¬ D j) (hr : Ready L D j) (hex : ex j) (hdst : dstOk N o.dst = true) (hb0 : ∀ b k, β0 b = some k → ∃ q, (Hs 0).tr.get b = some q)
    (K : Act → World → Prop) (Q : Exit → Act → World → Prop) (hK : ∀ β' a' w', Inv L R0 N β0 w0 Hs V H1 ex (fun i => D i ∨ i = j) β' a' w' → K a' w') : o.wp P a w K Q := by
  have hj : j < L.length := (List.getElem?_eq_some_iff.1 ho).1
  obtain ⟨_, hrdj, hran, _, _⟩ := T.exec j o ho hex
  have hsel : ∀ x, x ∈ o.op.operands.toList → evS (selR (Rs j) (namesOf L o)) x = evS (Rs j) x := fun x hx => sel_eval (hd.small j o ho) x hx
  have hran' : Ran call (opS P (selR (Rs j) (namesOf L o)) (enterD (banAt L R0 (Hs j) j) (Hs j)) o.type o.op) (V j) (H1 j) := by
    rw [opS_congr o.op hsel]; exact hran
  have hrdd : rddOf (enterD (banAt L R0 (Hs j) j) (Hs j)) (selR (Rs j) (namesOf L o)) (banAt L R0 (Hs j) j) o.op = rd j := by
    rw [rddOf_congr o.op hsel, rdd_enter, hrdj]; rfl
  have hrr := step_regs T F hd I h0 hw ho hD hr
  have hwrd : ∀ g, g ∈ (H1 j).wrote → (rd j).has g = true := by
    intro g hg
    have := ran_wr (P := P) (H := enterD (banAt L R0 (Hs j) j) (Hs j)) hrr o rfl hran' (fun g hg => (F.wr j hj hex g hg).2) g hg
    rw [← hrdd]; exact this
  refine ran_does hc (enter_WF (F.wf j (by omega)) _) (step_HR T F hd I ho) hrr o (fun g hg hb => ?_) hran' K Q (fun β' v' w' hst hv hor hwf => ?_)
  · have hg' : (rd j).has g = true := by rw [← hrdd]; exact hg
    exact step_allowed T F hd I ho hD hr hex hg' hb
  · exact hK _ _ _ (step_inv T F hd I ho hD hr hex hdst hwrd hb0 hst hv hor)

theorem step_skip (T : Trace P call L R0 Rs Hs V H1 ex rd) (F : Facts L R0 β0 Rs Hs V H1 ex) (hd : DrawOk L) (I : Inv L R0 N β0 w0 Hs V H1 ex D β a w)
    (ho : L[j]? = some o) (hD : ¬ D j) (hr : Ready L D j) (hex : ¬ ex j) (hdst : dstOk N o.dst = true) :
    Inv L R0 N β0 w0 Hs V H1 ex (fun i => D i ∨ i = j) β (a.put o.dst undef) w := by
  have hj : j < L.length := (List.getElem?_eq_some_iff.1 ho).1
  obtain ⟨_, hV, _, hH⟩ := T.skip j o ho hex
  have hup : ∀ i, D i → (fun i => D i ∨ i = j) i := fun i h => .inl h
  refine { I with cl := ?_, lt := ?_, rec_ := ?_, root := ?_, row := ?_, reg0 := ?_, reg1 := ?_, size := ?_, top := ?_, defers := ?_, wd := ?_, full := ?_ }
  · rintro i x hx (hDi | rfl) e he hb
    · exact .inl (I.cl i x hx hDi e he hb)
    · exact .inl (hr x hx e he hb)
  · rintro i (h | rfl)
    · exact I.lt i h
    · exact hj
  · intro b k hb
    obtain ⟨q, h1, h2, h3, h4⟩ := I.rec_ b k hb
    exact ⟨q, h1, h2, h3.up hup, h4.up hup⟩
  · rintro i (h | rfl) hei g hg
    · exact (I.root i h hei g hg).up hup
    · exact absurd hei hex
  · intro b k s q hb hs hq hstg hl hbn
    refine I.row b k s q hb hs hq (fun i hi ht => ?_) hl hbn
    rw [← hstg i hi ht]
    refine ⟨.inl, fun h => ?_⟩
    rcases h with h | rfl
    · exact h
    · exact absurd ht.1 hex
  · intro t ht
    rw [put_getD (ht j o (.inr rfl) ho)]
    exact I.reg0 t (fun i x hDi => ht i x (.inl hDi))
  · intro t i x hDi hx hdx hmx
    by_cases hot : o.dst = some t
    · have hij : i = j := by
        rcases hDi with hDi | hDi
        · exfalso
          have h1 := hmx j o (.inr rfl) ho hot
          have h2 : j ≠ i := fun e => by rw [← e] at hDi; exact hD hDi
          have h3 := hd.meet j i x o hx ho (by omega) (.inl ⟨t, hot, dst_named hdx⟩)
          exact hD (mask_in hd I.cl i x hx (fun o' ho' => I.cl i o' ho' hDi) j h3)
        · exact hDi
      subst hij
      have htn : t < N := Nat.le_of_ble_eq_true (by rw [hot] at hdst; exact hdst)
      rw [hot, put_getD_same (Nat.lt_of_lt_of_le htn I.size), hV]
      exact VR.undef β
    · rw [put_getD hot]
      rcases hDi with hDi | rfl
      · exact I.reg1 t i x hDi hx hdx (fun i' o' hi' => hmx i' o' (.inl hi'))
      · rw [ho] at hx; cases hx; exact absurd hdx hot
  · rw [put_size]; exact I.size
  · rw [put_size]; exact I.top
  · rw [put_defers]; exact I.defers
  · rintro i (h | rfl) hei g hg hlt0
    · exact I.wd i h hei g hg hlt0
    · exact absurd hei hex
  · rintro d (h | rfl) b hn
    · exact I.full d h b hn
    · exfalso
      have h1 := hn.1; have h2 := hn.2
      rw [hH] at h2; omega

theorem start_inv (F : Facts L R0 β0 Rs Hs V H1 ex) (h0 : Rs 0 = R0) {a : Act} {w : World} (hs : S N β0 (Rs 0) (Hs 0) a w) : Inv L R0 N β0 w Hs V H1 ex (fun _ => False) β0 a w := by
  refine ⟨fun i x hx h => h.elim, fun i h => h.elim, fun b k hb => (hs.hr.dom b k hb).2.1, fun b k hb => ?_, fun i h => h.elim, fun b b' k k' q q' hb hb' hq hq' e => ?_, fun b k s q hb hsl hq hstg hl hbn => ?_,
    fun t _ => by rw [← h0]; exact hs.rr t, fun t i x h => h.elim, hs.size, hs.top, hs.defers, rfl, rfl, rfl, Nat.le_refl _, Ext.refl _, fun _ _ _ => rfl, fun b k hb => .inl hb, fun i h => h.elim, fun d h => h.elim, fun b k h => ⟨hs.hr.base b k h, (hs.hr.dom b k (hs.hr.base b k h)).1⟩, hs.hr.fix, hs.hr.apart⟩
  · obtain ⟨h1, _, q, h2, h3⟩ := hs.hr.dom b k hb
    obtain ⟨q', h4, h5, h6⟩ := F.same_mono (Nat.zero_le _) (Nat.le_refl _) h2
    refine ⟨q', h4, h5.trans h3, .inl h1, .inl ?_⟩
    have := (hs.wf.grp b q h2).2.1
    omega
  · obtain ⟨_, _, p, h2, _⟩ := hs.hr.dom b k hb
    obtain ⟨_, _, p', h3, _⟩ := hs.hr.dom b' k' hb'
    have e1 := (F.alike (Nat.zero_le _) (Nat.le_refl _) h2 hq).1
    have e2 := (F.alike (Nat.zero_le _) (Nat.le_refl _) h3 hq').1
    rw [← e1, ← e2]
    exact hs.hr.share b b' k k' p p' hb hb' h2 h3 e
  · obtain ⟨_, _, p, h2, _⟩ := hs.hr.dom b k hb
    have e1 := (F.alike (Nat.zero_le _) hsl h2 hq).1
    have hkeep := F.keep_mono (Nat.zero_le s) hsl h2 (fun i _ hi hei hgi => by
      rw [e1] at hgi
      exact (hstg i (by omega) ⟨hei, .inl hgi⟩).2 hi)
    rw [hq] at hkeep
    have e2 : q = p := Option.some.inj hkeep.1
    subst e2
    exact hs.hr.row b k q hb h2 (by rw [← hkeep.2]; exact hl) hbn

theorem Trace.quiet (T : Trace P call L R0 Rs Hs V H1 ex rd) (h0 : Rs 0 = R0) {t : Nat} (ht : ∀ (i : Nat) (o : Oper), L[i]? = some o → o.dst ≠ some t) : ∀ j, j ≤ L.length → getR (Rs j) t = getR R0 t := by
  intro j
  induction j with
  | zero => intro _; rw [h0]
  | succ j ih =>
    intro hj
    have ho := List.getElem?_eq_getElem hj
    generalize L[j] = o at ho
    rw [T.regs ho, ← ih (by omega)]
    cases hdd : o.dst with
    | none => rfl
    | some d =>
      show getR ((Rs j).set (V j) (Nat.succ d)) t = _
      unfold getR
      rw [Tr.get_set_other _ _ _ _ (by intro h; exact ht j o ho (by rw [hdd, Nat.succ.inj h]))]
theorem Facts.born (F : Facts L R0 β0 Rs Hs V H1 ex) {b : Nat} (h : (Hs 0).next ≤ b) : ∀ n, n ≤ L.length → b < (Hs n).next → ∃ d, d < n ∧ New Hs d b := by
  intro n
  induction n with
  | zero => intro _ h2; omega
  | succ n ih =>
    intro hn h2
    rcases Nat.lt_or_ge b (Hs n).next with h3 | h3
    · obtain ⟨d, h4, h5⟩ := ih (by omega) h3
      exact ⟨d, by omega, h5⟩
    · exact ⟨n, by omega, h3, h2⟩

theorem end_inv (T : Trace P call L R0 Rs Hs V H1 ex rd) (F : Facts L R0 β0 Rs Hs V H1 ex) (hd : DrawOk L) (h0 : Rs 0 = R0) (hw : Wide R0) (hN : N ≤ 1000) (I : Inv L R0 N β0 w0 Hs V H1 ex D β a w) (hall : ∀ i, i < L.length → D i) :
    S N β (Rs L.length) (Hs L.length) a w ∧ St β0 (Hs 0) w0 β (Hs L.length) w := by
  have hwf := F.wf L.length (Nat.le_refl _)
  have hban := F.ban L.length (Nat.le_refl _)
  have hrr : RR β (Rs L.length) a.tmps := by
    intro t
    by_cases hx : ∃ (i : Nat) (o : Oper), L[i]? = some o ∧ o.dst = some t
    · obtain ⟨i, o, ho, hdo⟩ := hx
      have ht := hd.small i o ho t (dst_named hdo)
      rcases T.slot h0 hw ht L.length (Nat.le_refl _) with ⟨i, x, h1, h2, h3, h4, h5⟩ | ⟨h1, h2⟩
      · rw [h4]
        exact I.reg1 t i x (hall i h1) h2 h3 (fun i' o' hDi => h5 i' o' (I.lt i' hDi))
      · exact absurd hdo (h1 i o (List.getElem?_eq_some_iff.1 ho).1 ho)
    · have hq : ∀ (i : Nat) (o : Oper), L[i]? = some o → o.dst ≠ some t := fun i o h1 h2 => hx ⟨i, o, h1, h2⟩
      rw [T.quiet h0 hq L.length (Nat.le_refl _)]
      exact I.reg0 t (fun i o _ h1 => hq i o h1)
  have hhr : HR (Ab (Hs L.length).ban) β (Hs L.length) w := by
    refine ⟨fun b k hb => ?_, fun b k q hb hq hl hA => ?_, I.share, fun b k h => (I.low b k h).1, I.fix, I.apart⟩
    · obtain ⟨q, h1, h2, _⟩ := I.rec_ b k hb
      exact ⟨(hwf.pos h1).2, I.blk b k hb, q, h1, h2⟩
    · exact I.row b k L.length q hb (Nat.le_refl _) hq (fun i hi _ => ⟨fun _ => hi, fun _ => hall i hi⟩) hl (by rw [← hban]; exact hA)
  refine ⟨⟨hwf, hhr, hrr, T.wide h0 hw _ (Nat.le_refl _), hN, I.size, I.top, I.defers⟩, ?_⟩
  refine ⟨I.os, I.tape, I.output, I.wsz, I.ext, F.next_mono (Nat.zero_le _) (Nat.le_refl _), F.old _ (Nat.le_refl _), hban, fun g hg => F.wrote_mono (Nat.zero_le _) (Nat.le_refl _) hg, I.block, fun b k hb => ?_, fun b q hq => F.same_mono (Nat.zero_le _) (Nat.le_refl _) hq, fun b q hq h1 h2 => ?_, fun g hg => ?_, fun b h1 h2 => ?_⟩
  · rcases I.new b k hb with h | ⟨h1, q', h2, h3⟩
    · exact .inl h
    · exact .inr ⟨h1, (hwf.pos h2).2, q', h2, h3⟩
  · exact F.keep_mono (Nat.zero_le _) (Nat.le_refl _) hq (fun i _ hi hei hgi => h2 (F.wrote_mono (i := i + 1) (by omega) (Nat.le_refl _) (F.wrote i hi hei _ hgi h1)))
  · rcases F.came_from (Nat.le_refl _) hg with h | ⟨i, h1, h2, h3, h4⟩
    · exact .inl h
    · exact .inr ⟨h4, I.wd i (hall i h1) h2 g h3 h4⟩
  · obtain ⟨d, h3, h4⟩ := F.born h1 L.length (Nat.le_refl _) h2
    exact I.full d (hall d h3) b h4
end
end Go.Proofs.YtmfjpdlegaimlaaGreatDoor
