/- A region that draws its order: into one operation, whatever has been done. Of no program. -/
import Derived.Test.YtkgbifbbpmdpgaaPSh19
set_option linter.unusedVariables false
set_option linter.unusedSimpArgs false
namespace Go.Proofs.Ytkgbifbbpmdpgaa.Sh
section
open Go.RowKit
variable {bs : Inhabited Base}
section
variable {P : Program}
theorem load_wrote {H H' : Hp} {t : TypeId} {x v : Value} (h : loadS P H t x = .val v H') : H'.wrote = H.wrote := by
 unfold loadS at h
 split at h
 · unfold loadB at h
   split at h
   · split at h
     · split at h <;> cases h; rfl
     · split at h <;> cases h; rfl
     · cases h
   · cases h
 · cases h
theorem wroteS_in {H : Hp} {i g : Nat} (h : g ∈ wroteS H i) : g = i ∨ g ∈ H.wrote := by
 unfold wroteS at h
 cases hc : (Nat.blt i H.old && !(memN H.wrote i)) with
 | true => rw [hc] at h; exact List.mem_cons.1 h
 | false => rw [hc] at h; exact .inr h
theorem store_wrote {H H' : Hp} {t : TypeId} {x v : Value} (h : storeS P H t v x = .skip H') : ∀ g, g ∈ H'.wrote → grpAt H (placeOf x) = some g ∨ g ∈ H.wrote := by
 unfold storeS at h
 split at h
 · rename_i b off
   unfold storeB at h
   split at h
   · rename_i k hk
     split at h
     · rcases cond_split h with ⟨_, h⟩ | ⟨_, h⟩
       · cases h
         intro g hg
         have hg : g ∈ wroteS H k.grp := hg
         rcases wroteS_in hg with rfl | hg
         · left
           show grpAt H (some b) = _
           unfold grpAt
           simp only [(read_inv hk).1]
         · exact .inr hg
       · cases h
     · cases h
   · cases h
 · cases h
theorem ran_wr {call : FuncId → List Value → Hp → Ret} {β : Bij} {R : Regs} {a : Act} (h : RR β R a.tmps) (o : Oper) {H : Hp} (h0 : H.wrote = []) {v : Value} {H' : Hp} (hran : Ran call (opS P R H o.type o.op) v H') (hb : ∀ g, g ∈ H'.wrote → memN H.ban g = false) : ∀ g, g ∈ H'.wrote → (rddOf H R H.ban o.op).has g = true := by
 intro g hg
 have but : rddOf H R H.ban o.op = .but H.ban → (rddOf H R H.ban o.op).has g = true := by
  intro e
  rw [e]
  show (!(memN H.ban g)) = true
  rw [hb g hg]; rfl
 have none : H'.wrote = H.wrote → (rddOf H R H.ban o.op).has g = true := by
  intro e
  rw [e, h0] at hg; cases hg
 by_cases hp : pureO o.op = true
 · have := pure_run (P := P) (H := H) h o hp
   rcases hran with e | ⟨e, _⟩ | ⟨f, args, H2, e, _⟩
   · rw [e] at this
     exact none (by rw [this.1])
   · rw [e] at this; exact this.elim
   · rw [e] at this; exact this.elim
 have hpf : pureO o.op = false := by simpa using hp
 have val : (∀ H2, opS P R H o.type o.op ≠ .skip H2) → (∀ f args H2, opS P R H o.type o.op ≠ .enter f args H2) → opS P R H o.type o.op = .val v H' := by
  intro h1 h2
  rcases hran with e | ⟨e, _⟩ | ⟨f, args, H2, e, _⟩
  · exact e
  · exact absurd e (h1 _)
  · exact absurd e (h2 _ _ _)
 cases ho : o.op with
 | store t x y =>
   rw [ho] at hran
   rcases hran with e | ⟨e, _⟩ | ⟨f, args, H2, e, _⟩
   · exfalso
     have e' : storeS P H t (evS R y) (evS R x) = .val v H' := e
     unfold storeS at e'
     split at e'
     · unfold storeB at e'
       split at e'
       · split at e'
         · rcases cond_split e' with ⟨_, h⟩ | ⟨_, h⟩ <;> cases h
         · cases e'
       · cases e'
     · cases e'
   · have e' : storeS P H t (evS R y) (evS R x) = .skip H' := e
     rcases store_wrote e' g hg with h1 | h1
     · show (oneOf (grpAt H (placeOf (evS R x)))).has g = true
       rw [h1]
       exact beq_t rfl
     · rw [h0] at h1; cases h1
   · exfalso
     have e' : storeS P H t (evS R y) (evS R x) = .enter f args H2 := e
     unfold storeS at e'
     split at e'
     · unfold storeB at e'
       split at e'
       · split at e'
         · rcases cond_split e' with ⟨_, h⟩ | ⟨_, h⟩ <;> cases h
         · cases e'
       · cases e'
     · cases e'
 | load t x =>
   refine ho ▸ none ?_
   rw [ho] at hran
   have key : ∀ n, loadS P H t (evS R x) = n → (∃ v, n = .val v H) ∨ ∃ k, n = .bad k := by
    intro n e
    unfold loadS at e
    split at e
    · unfold loadB at e
      split at e
      · split at e
        · split at e <;> subst e
          · exact .inl ⟨_, rfl⟩
          · exact .inr ⟨_, rfl⟩
        · split at e <;> subst e
          · exact .inl ⟨_, rfl⟩
          · exact .inr ⟨_, rfl⟩
        · subst e; exact .inr ⟨_, rfl⟩
      · subst e; exact .inr ⟨_, rfl⟩
    · subst e; exact .inr ⟨_, rfl⟩
   rcases hran with e | ⟨e, _⟩ | ⟨f, args, H2, e, _⟩
   · exact load_wrote (P := P) (x := evS R x) (t := t) e
   · rcases key _ e with ⟨_, h⟩ | ⟨_, h⟩ <;> cases h
   · rcases key _ e with ⟨_, h⟩ | ⟨_, h⟩ <;> cases h
 | alloc e =>
   refine ho ▸ none ?_
   rw [ho] at hran
   have key : ∀ n, allocS P H e = n → (∃ v H', n = .val v H' ∧ H'.wrote = H.wrote) ∨ ∃ k, n = .bad k := by
    intro n e
    unfold allocS at e
    split at e
    · unfold newS roomS at e
      rcases cond_split e with ⟨_, h⟩ | ⟨_, h⟩
      · subst h; exact .inl ⟨_, _, rfl, rfl⟩
      · subst h; exact .inr ⟨_, rfl⟩
    · subst e; exact .inr ⟨_, rfl⟩
   rcases hran with e | ⟨e, _⟩ | ⟨f, args, H2, e, _⟩
   · rcases key _ e with ⟨_, _, h, h'⟩ | ⟨_, h⟩ <;> cases h; exact h'
   · rcases key _ e with ⟨_, _, h, h'⟩ | ⟨_, h⟩ <;> cases h
   · rcases key _ e with ⟨_, _, h, h'⟩ | ⟨_, h⟩ <;> cases h
 | box e x =>
   refine ho ▸ none ?_
   rw [ho] at hran
   have key : ∀ n, opS P R H o.type (.box e x) = n → (∃ v H', n = .val v H' ∧ H'.wrote = H.wrote) ∨ ∃ k, n = .bad k := by
    intro n e
    rcases cond_split (show cond _ (newS H _ _ _) _ = n from e) with ⟨_, e⟩ | ⟨_, e⟩
    · unfold newS roomS at e
      rcases cond_split e with ⟨_, h⟩ | ⟨_, h⟩
      · subst h; exact .inl ⟨_, _, rfl, rfl⟩
      · subst h; exact .inr ⟨_, rfl⟩
    · subst e; exact .inr ⟨_, rfl⟩
   rcases hran with e | ⟨e, _⟩ | ⟨f, args, H2, e, _⟩
   · rcases key _ e with ⟨_, _, h, h'⟩ | ⟨_, h⟩ <;> cases h; exact h'
   · rcases key _ e with ⟨_, _, h, h'⟩ | ⟨_, h⟩ <;> cases h
   · rcases key _ e with ⟨_, _, h, h'⟩ | ⟨_, h⟩ <;> cases h
 | build t ps =>
   refine ho ▸ none ?_
   rw [ho] at hran
   have key : ∀ n, Nx.of 79 H (buildS P t (partsS R ps)) = n → (∃ v H', n = .val v H' ∧ H'.wrote = H.wrote) ∨ ∃ k, n = .bad k := by
    intro n e
    cases hb : buildS P t (partsS R ps) with
    | some u => rw [hb] at e; subst e; exact .inl ⟨_, _, rfl, rfl⟩
    | none => rw [hb] at e; subst e; exact .inr ⟨_, rfl⟩
   rcases hran with e | ⟨e, _⟩ | ⟨f, args, H2, e, _⟩
   · rcases key _ e with ⟨_, _, h, h'⟩ | ⟨_, h⟩ <;> cases h; exact h'
   · rcases key _ e with ⟨_, _, h, h'⟩ | ⟨_, h⟩ <;> cases h
   · rcases key _ e with ⟨_, _, h, h'⟩ | ⟨_, h⟩ <;> cases h
 | buildSlice t n ps =>
   refine ho ▸ none ?_
   rw [ho] at hran
   have key : ∀ m, buildSliceS P H t n (partsS R ps) = m → (∃ v H', m = .val v H' ∧ H'.wrote = H.wrote) ∨ ∃ k, m = .bad k := by
    intro n e
    unfold buildSliceS at e
    split at e
    · split at e
      · split at e
        · rcases cond_split e with ⟨_, e⟩ | ⟨_, e⟩
          · unfold newL roomS at e
            rcases cond_split e with ⟨_, h⟩ | ⟨_, h⟩
            · subst h; exact .inl ⟨_, _, rfl, rfl⟩
            · subst h; exact .inr ⟨_, rfl⟩
          · subst e; exact .inr ⟨_, rfl⟩
        · subst e; exact .inr ⟨_, rfl⟩
      · subst e; exact .inr ⟨_, rfl⟩
    · subst e; exact .inr ⟨_, rfl⟩
   rcases hran with e | ⟨e, _⟩ | ⟨f, args, H2, e, _⟩
   · rcases key _ e with ⟨_, _, h, h'⟩ | ⟨_, h⟩ <;> cases h; exact h'
   · rcases key _ e with ⟨_, _, h, h'⟩ | ⟨_, h⟩ <;> cases h
   · rcases key _ e with ⟨_, _, h, h'⟩ | ⟨_, h⟩ <;> cases h
 | makeSlice t l c =>
   refine ho ▸ none ?_
   rw [ho] at hran
   have key : ∀ m, makeSliceS P H t (evS R l) (evS R c) = m → (∃ v H', m = .val v H' ∧ H'.wrote = H.wrote) ∨ ∃ k, m = .bad k := by
    intro n e
    unfold makeSliceS at e
    split at e
    · split at e
      · rcases cond_split e with ⟨_, e⟩ | ⟨_, e⟩
        · unfold newL roomS at e
          rcases cond_split e with ⟨_, h⟩ | ⟨_, h⟩
          · subst h; exact .inl ⟨_, _, rfl, rfl⟩
          · subst h; exact .inr ⟨_, rfl⟩
        · subst e; exact .inr ⟨_, rfl⟩
      · subst e; exact .inr ⟨_, rfl⟩
    · subst e; exact .inr ⟨_, rfl⟩
   rcases hran with e | ⟨e, _⟩ | ⟨f, args, H2, e, _⟩
   · rcases key _ e with ⟨_, _, h, h'⟩ | ⟨_, h⟩ <;> cases h; exact h'
   · rcases key _ e with ⟨_, _, h, h'⟩ | ⟨_, h⟩ <;> cases h
   · rcases key _ e with ⟨_, _, h, h'⟩ | ⟨_, h⟩ <;> cases h
 | _ => first | (rw [ho] at hpf; cases hpf; done) | (refine ho ▸ but ?_; rw [ho]; rw [ho] at hpf; first | rfl | (show cond (pureO _) _ _ = _; rw [hpf]; rfl))
end
end
section
open Go.RowKit
variable {bs : Inhabited Base}
section
variable {P : Program} {call : FuncId → List Value → Hp → Ret} {L : List Oper} {R0 : Regs} {N : Nat} {β0 : Bij} {w0 : World}
variable {Rs : Nat → Regs} {Hs : Nat → Hp} {V : Nat → Value} {H1 : Nat → Hp} {ex : Nat → Prop} {rd : Nat → Rdd}
theorem Trace.regs (T : Trace P call L R0 Rs Hs V H1 ex rd) {j : Nat} {o : Oper} (ho : L[j]? = some o) : Rs (j + 1) = putR (Rs j) (V j) o.dst := by
 by_cases h : ex j
 · exact (T.exec j o ho h).2.2.2.1
 · obtain ⟨_, h1, h2, _⟩ := T.skip j o ho h
   rw [h1]; exact h2
theorem Trace.wide (T : Trace P call L R0 Rs Hs V H1 ex rd) (h0 : Rs 0 = R0) (hw : Wide R0) : ∀ j, j ≤ L.length → Wide (Rs j) := by
 intro j
 induction j with
 | zero => intro _; rw [h0]; exact hw
 | succ j ih =>
   intro hj
   rw [T.regs (List.getElem?_eq_getElem hj)]
   exact (ih (by omega)).put _ _
theorem Trace.slot (T : Trace P call L R0 Rs Hs V H1 ex rd) (h0 : Rs 0 = R0) (hw : Wide R0) {t : Nat} (ht : t < 1000) : ∀ j, j ≤ L.length →
  (∃ (i : Nat) (o : Oper), i < j ∧ L[i]? = some o ∧ o.dst = some t ∧ getR (Rs j) t = V i ∧ ∀ (i' : Nat) (o' : Oper), i' < j → L[i']? = some o' → o'.dst = some t → i' ≤ i) ∨
  ((∀ (i' : Nat) (o' : Oper), i' < j → L[i']? = some o' → o'.dst ≠ some t) ∧ getR (Rs j) t = getR R0 t) := by
 intro j
 induction j with
 | zero => intro _; rw [h0]; exact .inr ⟨fun i' o' h => by omega, rfl⟩
 | succ j ih =>
   intro hj
   have ho := List.getElem?_eq_getElem hj
   generalize L[j] = o at ho
   have hr := T.regs ho
   have hwd := T.wide h0 hw j (by omega)
   by_cases hd : o.dst = some t
   · left
     refine ⟨j, o, by omega, ho, hd, ?_, fun i' o' h _ _ => by omega⟩
     rw [hr, hd]
     show getR ((Rs j).set (V j) (Nat.succ t)) t = V j
     rw [getR_set _ _ _ _ (hwd t ht), if_pos rfl]
   · have e : getR (Rs (j + 1)) t = getR (Rs j) t := by
      rw [hr]
      cases hdd : o.dst with
      | none => rfl
      | some d =>
        show getR ((Rs j).set (V j) (Nat.succ d)) t = _
        unfold getR
        rw [Tr.get_set_other _ _ _ _ (by intro h; exact hd (by rw [hdd, Nat.succ.inj h]))]
     rcases ih (by omega) with ⟨i, x, h1, h2, h3, h4, h5⟩ | ⟨h1, h2⟩
     · refine .inl ⟨i, x, by omega, h2, h3, by rw [e]; exact h4, fun i' o' hi ho' hd' => ?_⟩
       rcases Nat.lt_or_ge i' j with h | h
       · exact h5 i' o' h ho' hd'
       · obtain rfl : i' = j := (by omega)
         rw [ho] at ho'; cases ho'
         exact absurd hd' hd
     · refine .inr ⟨fun i' o' hi ho' hd' => ?_, by rw [e]; exact h2⟩
       rcases Nat.lt_or_ge i' j with h | h
       · exact h1 i' o' h ho' hd'
       · obtain rfl : i' = j := (by omega)
         rw [ho] at ho'; cases ho'
         exact absurd hd' hd
theorem dst_named {o : Oper} {d : Tmp} (h : o.dst = some d) : d ∈ namesOf L o := by
 unfold namesOf
 rw [h]
 exact List.mem_append_left _ (List.mem_cons_self ..)
def near (β : Bij) (n : Nat) : Bij := fun b => if b < n then β b else none
theorem near_inv {β : Bij} {n b : Nat} {k : Bk} (h : near β n b = some k) : b < n ∧ β b = some k := by
 unfold near at h
 split at h
 · rename_i hb; exact ⟨hb, h⟩
 · cases h
theorem near_of {β : Bij} {n b : Nat} {k : Bk} (hb : b < n) (h : β b = some k) : near β n b = some k := by
 unfold near; rw [if_pos hb]; exact h
def Allowed (L : List Oper) (Hs H1 : Nat → Hp) (ex D : Nat → Prop) (β : Bij) (j g : Nat) : Prop :=
 memN (Hs 0).ban g = false ∧ ∀ (b : Nat) (k : Bk) (q : Blk), near β (Hs j).next b = some k → (Hs j).tr.get b = some q → q.grp = g → Stage L.length Hs H1 ex D g j
section
variable {D : Nat → Prop} {β : Bij} {a : Act} {w : World} {j : Nat} {o : Oper}
theorem step_regs (T : Trace P call L R0 Rs Hs V H1 ex rd) (F : Facts L R0 β0 Rs Hs V H1 ex) (hd : DrawOk L) (I : Inv L R0 N β0 w0 Hs V H1 ex D β a w) (h0 : Rs 0 = R0) (hw : Wide R0) (ho : L[j]? = some o) (hD : ¬ D j) (hr : Ready L D j) : RR (near β (Hs j).next) (selR (Rs j) (namesOf L o)) a.tmps := by
 have hj : j < L.length := (List.getElem?_eq_some_iff.1 ho).1
 refine sel_RR I.top _ (fun t ht => ?_)
 have ht1 := hd.small j o ho t ht
 have hA : ∀ (i : Nat) (x : Oper), i < j → L[i]? = some x → x.dst = some t → D i := fun i x hi hx hdx =>
  mask_in hd I.cl j o ho hr i (hd.meet i j o x ho hx hi (.inl ⟨t, hdx, ht⟩))
 have hB : ∀ (i : Nat) (x : Oper), D i → L[i]? = some x → x.dst = some t → i < j := fun i x hDi hx hdx => by
  rcases Nat.lt_trichotomy i j with h | h | h
  · exact h
  · subst h; exact absurd hDi hD
  · exact absurd (mask_in hd I.cl i x hx (fun o' ho' => I.cl i o' ho' hDi) j (hd.meet j i x o hx ho h (.inr ⟨t, hdx, ht⟩))) hD
 refine VR.cut ?_ (F.regs j (by omega) t)
 rcases T.slot h0 hw ht1 j (by omega) with ⟨i, x, h1, h2, h3, h4, h5⟩ | ⟨h1, h2⟩
 · rw [h4]
   exact I.reg1 t i x (hA i x h1 h2 h3) h2 h3 (fun i' o' hDi ho' hd' => h5 i' o' (hB i' o' hDi ho' hd') ho' hd')
 · rw [h2]
   exact I.reg0 t (fun i x hDi hx hdx => h1 i x (hB i x hDi hx hdx) hx hdx)
theorem step_wanted (T : Trace P call L R0 Rs Hs V H1 ex rd) (F : Facts L R0 β0 Rs Hs V H1 ex) (hd : DrawOk L) (I : Inv L R0 N β0 w0 Hs V H1 ex D β a w) (h0 : Rs 0 = R0) (hw : Wide R0) {ops : Array Oper} (hL : ops.toList = L) (ho : L[j]? = some o) (hD : ¬ D j) (hr : Ready L D j) {t : Bool} (ht : wantedS L (Rs j) o.guard = some t) : Region.wanted o (yielded ops a.tmps) = t := by
 have h1 := step_regs T F hd I h0 hw ho hD hr
 have hsm := hd.small j o ho
 subst hL
 refine wanted_eq h1 ?_
 rw [← ht]
 cases hg : o.guard with
 | none => rfl
 | some p =>
   obtain ⟨g, want⟩ := p
   show (match (nth ops.toList g).bind (·.dst) with | some d => yieldS want (getR _ d) | none => some false) = (match (nth ops.toList g).bind (·.dst) with | some d => yieldS want (getR _ d) | none => some false)
   cases hn : (nth ops.toList g).bind (·.dst) with
   | none => rfl
   | some d =>
     have hm : d ∈ namesOf ops.toList o := by
      unfold namesOf
      refine List.mem_append_right _ (List.mem_append_right _ ?_)
      rw [hg]
      simp only
      rw [nth_eq] at hn
      rw [hn]
      exact List.mem_cons_self ..
     simp only
     rw [sel_in _ _ _ hm (hsm d hm)]
theorem step_HR (T : Trace P call L R0 Rs Hs V H1 ex rd) (F : Facts L R0 β0 Rs Hs V H1 ex) (hd : DrawOk L) (I : Inv L R0 N β0 w0 Hs V H1 ex D β a w) (ho : L[j]? = some o) : HR (Allowed L Hs H1 ex D β j) (near β (Hs j).next) (enterD (banAt L R0 (Hs j) j) (Hs j)) w := by
 have hj : j < L.length := (List.getElem?_eq_some_iff.1 ho).1
 refine ⟨fun b k hb => ?_, fun b k q hb hq hl hA => ?_, fun b b' k k' q q' hb hb' hq hq' e => ?_, fun b k h => near_of (Nat.lt_of_lt_of_le (I.low b k h).2 (F.next_mono (Nat.zero_le j) (by omega))) (I.low b k h).1, I.fix, fun b k h => I.apart b k (near_inv h).2⟩
 · obtain ⟨h1, h2⟩ := near_inv hb
   obtain ⟨q, h3, h4, _⟩ := I.rec_ b k h2
   obtain ⟨q', h5, h6, h7⟩ := F.rec_of (by omega) h1 h3
   exact ⟨h1, I.blk b k h2, q', h5, h7.trans h4⟩
 · obtain ⟨h1, h2⟩ := near_inv hb
   have hq : (Hs j).tr.get b = some q := hq
   have hl : (Hs j).since q ≤ b := hl
   obtain ⟨cs, h3, h4, h5⟩ := I.row b k j q h2 (by omega) hq (hA.2 b k q hb hq rfl) hl hA.1
   have hkn : Known β0 (Hs 0).next b := by
    rcases I.new b k h2 with h | ⟨h, _⟩
    · exact .inl ⟨k, h⟩
    · exact .inr h
   refine ⟨cs, h3, h4, fun i x hx => ?_⟩
   obtain ⟨y, hy, hv⟩ := h5 i x hx
   exact ⟨y, hy, hv.cut (F.row j (by omega) b q hq hkn hl hA.1 x (List.mem_of_getElem? hx))⟩
 · obtain ⟨_, h1⟩ := near_inv hb
   obtain ⟨_, h2⟩ := near_inv hb'
   obtain ⟨p, h3, _⟩ := I.rec_ b k h1
   obtain ⟨p', h4, _⟩ := I.rec_ b' k' h2
   have hq : (Hs j).tr.get b = some q := hq
   have hq' : (Hs j).tr.get b' = some q' := hq'
   have e1 := (F.alike (by omega) (Nat.le_refl _) hq h3).1
   have e2 := (F.alike (by omega) (Nat.le_refl _) hq' h4).1
   rw [e1, e2]
   exact I.share b b' k k' p p' h1 h2 h3 h4 e
theorem step_allowed (T : Trace P call L R0 Rs Hs V H1 ex rd) (F : Facts L R0 β0 Rs Hs V H1 ex) (hd : DrawOk L) (I : Inv L R0 N β0 w0 Hs V H1 ex D β a w) (ho : L[j]? = some o) (hD : ¬ D j) (hr : Ready L D j) (hex : ex j) {g : Nat} (hg : (rd j).has g = true) (hb : memN (banAt L R0 (Hs j) j) g = false) : Allowed L Hs H1 ex D β j g := by
 have hj : j < L.length := (List.getElem?_eq_some_iff.1 ho).1
 refine ⟨by rw [← F.ban j (by omega)]; exact ban_sub hb, fun b k q hbk hq he i hi ht => ?_⟩
 obtain ⟨h1, h2⟩ := near_inv hbk
 obtain ⟨hei, ht⟩ := ht
 have hgn : g ≤ b := by rw [← he]; exact ((F.wf j (by omega)).grp b q hq).2.1
 rcases Nat.lt_trichotomy i j with hij | hij | hij
 · refine ⟨fun _ => hij, fun _ => ?_⟩
   rcases ht with ht | ht
   · rcases ordered T hd hi hj (by omega) hei hex ht hg with ⟨_, h⟩ | ⟨h, _⟩
     · exact mask_in hd I.cl j o ho hr i h
     · omega
   · obtain ⟨p, h3, _, _, h4⟩ := I.rec_ b k h2
     rw [← (F.alike (by omega) (Nat.le_refl _) hq h3).1, he] at h4
     rcases h4 with h4 | ⟨d, hDd, _, h4⟩
     · have := New.old F ht hi; omega
     · have := New.unique F h4 ht (I.lt d hDd) hi
       rw [← this]; exact hDd
 · subst hij
   exact ⟨fun h => absurd h hD, fun h => absurd h (by omega)⟩
 · refine ⟨fun hDi => ?_, fun h => absurd h (by omega)⟩
   exfalso
   rcases ht with ht | ht
   · rcases ordered T hd hi hj (by omega) hei hex ht hg with ⟨h, _⟩ | ⟨_, h⟩
     · omega
     · exact hD (mask_in hd I.cl i _ (List.getElem?_eq_getElem hi) (fun o' ho' => I.cl i o' ho' hDi) j h)
   · have := F.next_mono (i := j) (j := i) (by omega) (by omega)
     have := ht.1
     omega
end
end
end
end Go.Proofs.Ytkgbifbbpmdpgaa.Sh
