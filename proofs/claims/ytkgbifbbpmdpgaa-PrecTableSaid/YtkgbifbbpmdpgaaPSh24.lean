/- A region that draws its order: behind one operation, whatever has been done. Of no program. -/
import Derived.Test.YtkgbifbbpmdpgaaPSh22
set_option linter.unusedVariables false
set_option linter.unusedSimpArgs false
namespace Go.Proofs.Ytkgbifbbpmdpgaa.Sh

open Go.RowKit
variable {bs : Inhabited Base}
def join (β β1 : Bij) : Bij := fun b => match β b with | some k => some k | none => β1 b
theorem join_left {β β1 : Bij} : Ext β (join β β1) := fun b k h => by unfold join; rw [h]
theorem join_inv {β β1 : Bij} {b : Nat} {k : Bk} (h : join β β1 b = some k) : β b = some k ∨ (β b = none ∧ β1 b = some k) := by
 unfold join at h
 cases hb : β b with
 | some k' => rw [hb] at h; exact .inl h
 | none => rw [hb] at h; exact .inr ⟨rfl, h⟩
theorem put_getD {a : Act} {d : Option Tmp} {v : Value} {t : Nat} (h : d ≠ some t) : (a.put d v).tmps.getD t undef = a.tmps.getD t undef := by
 cases d with
 | none => rfl
 | some d =>
   show (a.tmps.setIfInBounds d v).getD t undef = _
   have : d ≠ t := fun e => h (by rw [e])
   simp [Array.getD_eq_getD_getElem?, Array.getElem?_setIfInBounds, this]
theorem put_getD_same {a : Act} {v : Value} {t : Nat} (h : t < a.tmps.size) : (a.put (some t) v).tmps.getD t undef = v := by
 show (a.tmps.setIfInBounds t v).getD t undef = _
 simp [Array.getD_eq_getD_getElem?, Array.getElem?_setIfInBounds, h]
section
variable {P : Program} {call : FuncId → List Value → Hp → Ret} {L : List Oper} {R0 : Regs} {N : Nat} {β0 : Bij} {w0 : World}
variable {Rs : Nat → Regs} {Hs : Nat → Hp} {V : Nat → Value} {H1 : Nat → Hp} {ex : Nat → Prop} {rd : Nat → Rdd}
variable {D : Nat → Prop} {β : Bij} {a : Act} {w : World} {j : Nat} {o : Oper}
theorem Rooted.up {ex D D' : Nat → Prop} (h : ∀ i, D i → D' i) {g : Nat} (hr : Rooted Hs ex D g) : Rooted Hs ex D' g := by
 rcases hr with hr | ⟨d, h1, h2⟩
 · exact .inl hr
 · exact .inr ⟨d, h d h1, h2⟩
theorem Born.up {ex D D' : Nat → Prop} (h : ∀ i, D i → D' i) {b g : Nat} (hr : Born Hs H1 ex D b g) : Born Hs H1 ex D' b g := by
 rcases hr with hr | ⟨d, h1, h2⟩
 · exact .inl hr
 · exact .inr ⟨d, h d h1, h2⟩
theorem step_inv (T : Trace P call L R0 Rs Hs V H1 ex rd) (F : Facts L R0 β0 Rs Hs V H1 ex) (hd : DrawOk L) (I : Inv L R0 N β0 w0 Hs V H1 ex D β a w)
  (ho : L[j]? = some o) (hD : ¬ D j) (hr : Ready L D j) (hex : ex j) (hdst : dstOk N o.dst = true) (hrd : ∀ g, g ∈ (H1 j).wrote → (rd j).has g = true)
  (hb0 : ∀ b k, β0 b = some k → ∃ q, (Hs 0).tr.get b = some q)
  {β1 : Bij} {v' : Value} {w1 : World} (hst : St (near β (Hs j).next) (enterD (banAt L R0 (Hs j) j) (Hs j)) w β1 (H1 j) w1) (hv : VR β1 (V j) v')
  (hor : HR (Allowed L Hs H1 ex D β j) β1 (H1 j) w1 ∨ HR (Ab (banAt L R0 (Hs j) j)) β1 (H1 j) w1) :
  Inv L R0 N β0 w0 Hs V H1 ex (fun i => D i ∨ i = j) (join β β1) (a.put o.dst v') w1 := by
 have hj : j < L.length := (List.getElem?_eq_some_iff.1 ho).1
 have hup : ∀ i, D i → (fun i => D i ∨ i = j) i := fun i h => .inl h
 have hHs : Hs (j + 1) = leaveD (Hs j) (H1 j) := (T.exec j o ho hex).2.2.2.2
 have htr : (Hs (j + 1)).tr = (H1 j).tr := by rw [hHs]; rfl
 have hnx : (Hs (j + 1)).next = (H1 j).next := by rw [hHs]; rfl
 have hsn : ∀ q, (Hs (j + 1)).since q = (H1 j).since q := fun q => by rw [hHs]; rfl
 have hwr := F.wr j hj hex
 have hdom : ∀ b k, β1 b = some k → b < (H1 j).next ∧ k.blk < w1.heap.size ∧ ∃ q, (H1 j).tr.get b = some q ∧ q.size = k.size := by
  rcases hor with h | h <;> exact h.dom
 have hshare : ∀ b b' k k' q q', β1 b = some k → β1 b' = some k' → (H1 j).tr.get b = some q → (H1 j).tr.get b' = some q' → k.blk = k'.blk → q.grp = q'.grp := by
  rcases hor with h | h <;> exact h.share
 have hlt : ∀ b q, (Hs j).tr.get b = some q → q.grp < (Hs j).next := fun b q hq => by
  have e1 := (F.wf j (by omega)).grp b q hq
  have e2 := (F.wf j (by omega)).pos hq
  omega
 -- what is new
 have hnew : ∀ b k, β1 b = some k → (b < (Hs j).next ∧ β b = some k) ∨ (New Hs j b ∧ ∃ q', (Hs (j + 1)).tr.get b = some q' ∧ (((Hs j).next ≤ q'.grp ∧ w.heap.size ≤ k.blk) ∨ ∃ b0 k0 q0, near β (Hs j).next b0 = some k0 ∧ (Hs j).tr.get b0 = some q0 ∧ q0.grp = q'.grp ∧ q0.grp ∈ (H1 j).wrote ∧ (w.heap.size ≤ k.blk ∨ k0.blk = k.blk))) := by
  intro b k hb
  rcases hst.new b k hb with h | ⟨h1, h2, q', h3, h4⟩
  · exact .inl (near_inv h)
  · refine .inr ⟨⟨h1, by rw [hnx]; exact h2⟩, q', by rw [htr]; exact h3, ?_⟩
    rcases h4 with h4 | ⟨b0, k0, q0, h5, h6, h7, h8, h9⟩
    · exact .inl h4
    · refine .inr ⟨b0, k0, q0, h5, h6, h7, ?_, h9⟩
      by_cases hw : q0.grp ∈ (H1 j).wrote
      · exact hw
      · exact absurd ⟨hlt b0 q0 h6, hw⟩ h8
 -- nothing that was there is new
 have hnot : ∀ b k, β b = some k → ¬ New Hs j b := by
  intro b k hb hn
  obtain ⟨q, _, _, hbn, _⟩ := I.rec_ b k hb
  rcases hbn with h | ⟨d, h1, _, h2, _⟩
  · have := New.old F hn hj; omega
  · have := New.unique F h2 hn (I.lt d h1) hj
    rw [this] at h1; exact hD h1
 have hnone : ∀ b, New Hs j b → β b = none := by
  intro b hn
  cases hb : β b with
  | none => rfl
  | some k => exact absurd hn (hnot b k hb)
 have hext1 : Ext β1 (join β β1) := by
  intro b k hb
  rcases hnew b k hb with ⟨_, h⟩ | ⟨h, _⟩
  · exact join_left b k h
  · unfold join; rw [hnone b h]; exact hb
 have hnear : ∀ b k, b < (Hs j).next → β b = some k → β1 b = some k := fun b k h1 h2 => hst.ext b k (near_of h1 h2)
 have hjoin : ∀ b k, join β β1 b = some k → β b = some k ∨ (β1 b = some k ∧ New Hs j b) := by
  intro b k hb
  rcases join_inv hb with h | ⟨h1, h2⟩
  · exact .inl h
  · rcases hnew b k h2 with ⟨_, h⟩ | ⟨h, _⟩
    · exact .inl h
    · exact .inr ⟨h2, h⟩
 have hrootb : ∀ b0 k0 q0, near β (Hs j).next b0 = some k0 → (Hs j).tr.get b0 = some q0 → Rooted Hs ex D q0.grp := by
  intro b0 k0 q0 h1 h2
  obtain ⟨p, h3, _, _, h4⟩ := I.rec_ b0 k0 (near_inv h1).2
  rw [(F.alike (by omega) (Nat.le_refl _) h2 h3).1]; exact h4
 have hrootw : ∀ g, g ∈ (H1 j).wrote → Rooted Hs ex D g := by
  intro g hg
  rcases hst.wdom g hg with h | ⟨_, _, b0, k0, q0, h1, h2, h3⟩
  · cases h
  · rw [← h3]; exact hrootb b0 k0 q0 h1 h2
 have hnoroot : ∀ g, New Hs j g → ¬ Rooted Hs ex D g := by
  intro g hn hr'
  rcases hr' with h | ⟨d, h1, _, h2⟩
  · have := New.old F hn hj; omega
  · have := New.unique F h2 hn (I.lt d h1) hj
    rw [this] at h1; exact hD h1
 have hfin : ∀ b q, (Hs (j + 1)).tr.get b = some q → ∃ q', (Hs L.length).tr.get b = some q' ∧ q'.size = q.size ∧ q'.grp = q.grp := fun b q hq => F.same_mono (by omega) (Nat.le_refl _) hq
 -- rows that have been written, or are new
 have hrow : ∀ b k q, β1 b = some k → (Hs (j + 1)).tr.get b = some q → (Hs (j + 1)).since q ≤ b → (q.grp ∈ (H1 j).wrote ∨ ((Hs j).next ≤ q.grp ∧ memN (Hs 0).ban q.grp = false)) → RowV β1 q k w1 := by
  intro b k q hb hq hl hg
  rw [htr] at hq
  rw [hsn] at hl
  rcases hor with h | h
  · refine h.row b k q hb hq hl ?_
    rcases hg with hg | ⟨hg, hbn⟩
    · exact step_allowed T F hd I ho hD hr hex (hrd _ hg) (hwr _ hg).2
    · refine ⟨hbn, fun b' k' q' hb' hq' e => ?_⟩
      have := hlt b' q' hq'
      omega
  · refine h.row b k q hb hq hl ?_
    rcases hg with hg | ⟨hg, hbn⟩
    · exact (hwr _ hg).2
    · show memN (banAt L R0 (Hs j) j) q.grp = false
      cases hba : memN (banAt L R0 (Hs j) j) q.grp with
      | false => rfl
      | true =>
        have := ban_new (L := L) (R0 := R0) (j := j) (F.wf j (by omega)) (by rw [F.ban j (by omega)]; exact hbn) hba
        omega
 have hsz : w.heap.size ≤ w1.heap.size := hst.size
 -- one far off and one new
 have hmix : ∀ b b' k k' q q', β b = some k → β1 b' = some k' → New Hs j b' → (Hs L.length).tr.get b = some q → (Hs L.length).tr.get b' = some q' → k.blk = k'.blk → q.grp = q'.grp := by
  intro b b' k k' q q' hb hb' hn hq hq' e
  rcases hnew b' k' hb' with ⟨h1, _⟩ | ⟨_, p, h3, h4⟩
  · have := hn.1; omega
  · obtain ⟨p', h5, _, h6⟩ := hfin b' p h3
    rw [hq'] at h5; cases h5
    have hblk := I.blk b k hb
    rcases h4 with ⟨_, h4⟩ | ⟨b0, k0, q0, h7, h8, h9, _, h10⟩
    · omega
    · rcases h10 with h10 | h10
      · omega
      · obtain ⟨p0, h11, _⟩ := I.rec_ b0 k0 (near_inv h7).2
        have e1 := (F.alike (by omega) (Nat.le_refl _) h8 h11).1
        have e2 := I.share b b0 k k0 q p0 hb (near_inv h7).2 hq h11 (e.trans h10.symm)
        rw [e2, ← e1, h9, h6]
 have hlast : ∀ g, g ∈ (H1 j).wrote → ∀ k, j < k → k < L.length → (D k ∨ k = j) → ex k → g ∉ (H1 k).wrote := by
  intro g hg k hjk hk hDk hek hgk
  have hDk : D k := hDk.resolve_right (by omega)
  rcases ordered T hd hk hj (by omega) hek hex hgk (hrd g hg) with ⟨h, _⟩ | ⟨_, h⟩
  · omega
  · exact hD (mask_in hd I.cl k _ (List.getElem?_eq_getElem hk) (fun o' ho' => I.cl k o' ho' hDk) j h)
 refine ⟨?_, ?_, ?_, ?_, ?_, ?_, ?_, ?_, ?_, ?_, ?_, ?_, ?_, ?_, ?_, ?_, ?_, ?_, ?_, ?_, ?_, fun b k h => ⟨join_left b k (I.low b k h).1, (I.low b k h).2⟩, (by rcases hor with h | h <;> exact h.fix), fun b k h => by
  rcases join_inv h with h1 | ⟨_, h1⟩
  · exact I.apart b k h1
  · rcases hor with h2 | h2 <;> exact h2.apart b k h1⟩
 · -- cl
   rintro i x hx (hDi | rfl) e he hb
   · exact .inl (I.cl i x hx hDi e he hb)
   · exact .inl (hr x hx e he hb)
 · -- lt
   rintro i (h | rfl)
   · exact I.lt i h
   · exact hj
 · -- blk
   intro b k hb
   rcases hjoin b k hb with h | ⟨h, _⟩
   · have := I.blk b k h; omega
   · exact (hdom b k h).2.1
 · -- rec_
   intro b k hb
   rcases hjoin b k hb with h | ⟨h, hn⟩
   · obtain ⟨q, h1, h2, h3, h4⟩ := I.rec_ b k h
     exact ⟨q, h1, h2, h3.up hup, h4.up hup⟩
   · obtain ⟨_, _, q1, h1, h2⟩ := hdom b k h
     have h1' : (Hs (j + 1)).tr.get b = some q1 := by rw [htr]; exact h1
     obtain ⟨q, h3, h4, h5⟩ := hfin b q1 h1'
     refine ⟨q, h3, h4.trans h2, ?_, ?_⟩
     · refine .inr ⟨j, .inr rfl, hex, hn, ?_⟩
       rcases hnew b k h with ⟨h6, _⟩ | ⟨_, p, h6, h7⟩
       · have := hn.1; omega
       · rw [h1'] at h6; cases h6
         rw [h5]
         rcases h7 with ⟨h7, _⟩ | ⟨b0, k0, q0, _, _, h8, h9, _⟩
         · exact .inr h7
         · rw [← h8]; exact .inl h9
     · rcases hnew b k h with ⟨h6, _⟩ | ⟨_, p, h6, h7⟩
       · have := hn.1; omega
       · rw [h1'] at h6; cases h6
         rw [h5]
         rcases h7 with ⟨h7, _⟩ | ⟨b0, k0, q0, h10, h11, h8, h9, _⟩
         · have := ((F.wf (j + 1) (by omega)).grp b q1 h1').2.1
           exact .inr ⟨j, .inr rfl, hex, h7, by have := hn.2; omega⟩
         · rw [← h8]; exact (hrootw _ h9).up hup
 · -- root
   rintro i (h | rfl) hei g hg
   · exact (I.root i h hei g hg).up hup
   · exact (hrootw g hg).up hup
 · -- share
   intro b b' k k' q q' hb hb' hq hq' e
   rcases hjoin b k hb with h | ⟨h, hn⟩ <;> rcases hjoin b' k' hb' with h' | ⟨h', hn'⟩
   · exact I.share b b' k k' q q' h h' hq hq' e
   · exact hmix b b' k k' q q' h h' hn' hq hq' e
   · exact (hmix b' b k' k q' q h' h hn hq' hq e.symm).symm
   · obtain ⟨_, _, p, h1, _⟩ := hdom b k h
     obtain ⟨_, _, p', h2, _⟩ := hdom b' k' h'
     have e1 := (F.alike (i := j + 1) (by omega) (Nat.le_refl _) (by rw [htr]; exact h1) hq).1
     have e2 := (F.alike (i := j + 1) (by omega) (Nat.le_refl _) (by rw [htr]; exact h2) hq').1
     rw [← e1, ← e2]
     exact hshare b b' k k' p p' h h' h1 h2 e
 · -- row
   intro b k s q hb hs hq hstg hl hbn
   by_cases hg : q.grp ∈ (H1 j).wrote
   · have hjs : j < s := ((hstg j hj ⟨hex, .inl hg⟩).1 (.inr rfl))
     have hfar : b < (Hs (j + 1)).next ∧ β1 b = some k := by
      rcases hjoin b k hb with h | ⟨h, hn⟩
      · rcases Nat.lt_or_ge b (Hs j).next with hlt' | hge
        · exact ⟨Nat.lt_of_lt_of_le hlt' (F.next j hj), hnear b k hlt' h⟩
        · exfalso
          obtain ⟨p, h1, _, h2, _⟩ := I.rec_ b k h
          have e1 := (F.alike hs (Nat.le_refl _) hq h1).1
          rw [← e1] at h2
          rcases h2 with h2 | ⟨d, h2, h3, h4, h5⟩
          · have := F.next_mono (i := 0) (j := j) (by omega) (by omega)
            omega
          · have hdl := I.lt d h2
            have hdj : j < d := by
             rcases Nat.lt_trichotomy d j with e | e | e
             · have := F.next_mono (i := d + 1) (j := j) (by omega) (by omega)
               have := h4.2
               omega
             · rw [e] at h2; exact absurd h2 hD
             · exact e
            rcases h5 with h5 | h5
            · exact hlast _ hg d hdj hdl (.inl h2) h3 h5
            · have e2 := (hwr _ hg).1
              have := F.next_mono (i := j) (j := d) (by omega) (by omega)
              omega
      · exact ⟨hn.2, h⟩
     obtain ⟨p, h1, _, _⟩ := F.same_mono hs (Nat.le_refl _) hq
     obtain ⟨q1, h2, h3, _⟩ := F.rec_of (j := j + 1) (by omega) hfar.1 h1
     have e1 : q1.grp = q.grp := (F.alike (by omega) hs h2 hq).1
     have hkeep := F.keep_mono (i := j + 1) (j := s) (by omega) hs h2 (fun i h4 h5 hei hgi => by
      rw [e1] at hgi
      have hDi : D i ∨ i = j := (hstg i (by omega) ⟨hei, .inl hgi⟩).2 h5
      exact hlast _ hg i (by omega) (by omega) hDi hei hgi)
     rw [hq] at hkeep
     have eq1 : q = q1 := Option.some.inj hkeep.1
     subst eq1
     have hrv := hrow b k q hfar.2 h2 (by rw [← hkeep.2]; exact hl) (.inl hg)
     exact hrv.mono hext1 rfl
   · rcases hjoin b k hb with h | ⟨h, hn⟩
     · obtain ⟨p, h1, _, _, h2⟩ := I.rec_ b k h
       have e1 := (F.alike hs (Nat.le_refl _) hq h1).1
       rw [← e1] at h2
       have hnt : ¬ Touch Hs H1 ex j q.grp := by
        rintro ⟨_, h3 | h3⟩
        · exact hg h3
        · exact hnoroot _ h3 h2
       have hstg' : Stage L.length Hs H1 ex D q.grp s := by
        intro i hi ht
        rw [← hstg i hi ht]
        refine ⟨.inl, fun h3 => ?_⟩
        rcases h3 with h3 | rfl
        · exact h3
        · exact absurd ht hnt
       refine (I.row b k s q h hs hq hstg' hl hbn).mono join_left (hst.block _ (I.blk b k h) (fun b1 k1 q1 hb1 hq1 e => ?_))
       have hq1 : (Hs j).tr.get b1 = some q1 := hq1
       obtain ⟨p1, h3, _⟩ := I.rec_ b1 k1 (near_inv hb1).2
       have e2 := (F.alike (by omega) (Nat.le_refl _) hq1 h3).1
       have e3 := I.share b1 b k1 k p1 p (near_inv hb1).2 h h3 h1 e
       refine ⟨hlt b1 q1 hq1, ?_⟩
       rw [e2, e3, ← e1]; exact hg
     · rcases hnew b k h with ⟨h6, _⟩ | ⟨_, q1, h2, h7⟩
       · have := hn.1; omega
       · have e1 : q1.grp = q.grp := (F.alike (by omega) hs h2 hq).1
         rw [e1] at h7
         have hfr : (Hs j).next ≤ q.grp := by
          rcases h7 with ⟨h7, _⟩ | ⟨b0, k0, q0, _, _, h8, h9, _⟩
          · exact h7
          · rw [h8] at h9; exact absurd h9 hg
         have hgn : New Hs j q.grp := by
          have := ((F.wf (j + 1) (by omega)).grp b q1 h2).2.1
          have := hn.2
          exact ⟨hfr, by omega⟩
         have hjs : j < s := ((hstg j hj ⟨hex, .inr hgn⟩).1 (.inr rfl))
         have hkeep := F.keep_mono (i := j + 1) (j := s) (by omega) hs h2 (fun i h4 h5 hei hgi => by
          rw [e1] at hgi
          have hDi : D i ∨ i = j := (hstg i (by omega) ⟨hei, .inl hgi⟩).2 h5
          exact hnoroot _ hgn (I.root i (hDi.resolve_right (by omega)) hei _ hgi))
         rw [hq] at hkeep
         have eq1 : q = q1 := Option.some.inj hkeep.1
         subst eq1
         have hrv := hrow b k q h h2 (by rw [← hkeep.2]; exact hl) (.inr ⟨hfr, hbn⟩)
         exact hrv.mono hext1 rfl
 · -- reg0
   intro t ht
   rw [put_getD (ht j o (.inr rfl) ho)]
   exact (I.reg0 t (fun i x hDi => ht i x (.inl hDi))).mono join_left
 · -- reg1
   intro t i x hDi hx hdx hmx
   by_cases hot : o.dst = some t
   · have hij : i = j := by
      rcases hDi with hDi | hDi
      · exfalso
        have h1 := hmx j o (.inr rfl) ho hot
        have h2 : j ≠ i := fun e => by rw [← e] at hDi; exact hD hDi
        have h3 := hd.meet j i x o hx ho (by omega) (.inl ⟨t, hot, dst_named hdx⟩)
        exact hD (mask_in hd I.cl i x hx (fun o' ho' => I.cl i o' ho' hDi) j h3)
      · exact hDi
     subst hij
     have htn : t < N := Nat.le_of_ble_eq_true (by rw [hot] at hdst; exact hdst)
     rw [hot, put_getD_same (Nat.lt_of_lt_of_le htn I.size)]
     exact hv.mono hext1
   · rw [put_getD hot]
     rcases hDi with hDi | rfl
     · exact (I.reg1 t i x hDi hx hdx (fun i' o' hi' => hmx i' o' (.inl hi'))).mono join_left
     · rw [ho] at hx; cases hx; exact absurd hdx hot
 · rw [put_size]; exact I.size
 · rw [put_size]; exact I.top
 · rw [put_defers]; exact I.defers
 · exact hst.os.trans I.os
 · exact hst.tape.trans I.tape
 · exact hst.output.trans I.output
 · exact Nat.le_trans I.wsz hsz
 · exact I.ext.trans join_left
 · -- block
   intro r hrs hk
   refine (hst.block r (Nat.lt_of_lt_of_le hrs I.wsz) (fun b k q hb hq e => ?_)).trans (I.block r hrs hk)
   have hq : (Hs j).tr.get b = some q := hq
   refine ⟨hlt b q hq, fun hg => ?_⟩
   have hinL : q.grp < (Hs 0).old → q.grp ∈ (Hs L.length).wrote := fun h => F.wrote_mono (i := j + 1) (by omega) (Nat.le_refl _) (F.wrote j hj hex _ hg h)
   rcases I.new b k (near_inv hb).2 with h | ⟨_, q', h1, h2⟩
   · obtain ⟨q0, h3⟩ := hb0 b k h
     have e1 := (F.alike (Nat.zero_le _) (by omega) h3 hq).1
     obtain ⟨h4, h5⟩ := hk b k q0 h h3 e
     rw [e1] at h4 h5
     exact h5 (hinL h4)
   · rcases h2 with ⟨_, h2⟩ | ⟨b0, k0, q0, h3, h4, h5, h6, h7⟩
     · omega
     · rcases h7 with h7 | h7
       · omega
       · exact h6 (hk b0 k0 q0 h3 h4 (h7.trans e))
 · -- new
   intro b k hb
   rcases hjoin b k hb with h | ⟨h, hn⟩
   · exact I.new b k h
   · refine .inr ⟨New.old F hn hj, ?_⟩
     rcases hnew b k h with ⟨h6, _⟩ | ⟨_, q1, h2, h7⟩
     · have := hn.1; omega
     · obtain ⟨q', h3, _, h4⟩ := hfin b q1 h2
       refine ⟨q', h3, ?_⟩
       rw [h4]
       have hn0 := F.next_mono (i := 0) (j := j) (by omega) (by omega)
       have hw0 := I.wsz
       rcases h7 with ⟨h7, h8⟩ | ⟨b0, k0, q0, h8, h9, h10, h11, h12⟩
       · exact .inl ⟨by omega, by omega⟩
       · have hinL : q0.grp < (Hs 0).old → q0.grp ∈ (Hs L.length).wrote := fun h => F.wrote_mono (i := j + 1) (by omega) (Nat.le_refl _) (F.wrote j hj hex _ h11 h)
         rcases I.new b0 k0 (near_inv h8).2 with g | ⟨_, p, g1, g2⟩
         · obtain ⟨p, g1⟩ := hb0 b0 k0 g
           have e1 := (F.alike (Nat.zero_le _) (by omega) g1 h9).1
           refine .inr ⟨b0, k0, p, g, g1, e1.trans h10, fun hh => ?_, ?_⟩
           · rw [e1] at hh; exact hh.2 (hinL hh.1)
           · rcases h12 with h12 | h12
             · exact .inl (by omega)
             · exact .inr h12
         · have e1 := (F.alike (by omega) (Nat.le_refl _) h9 g1).1
           rw [← e1, h10] at g2
           rcases g2 with ⟨g2, g3⟩ | ⟨b2, k2, q2, g3, g4, g5, g6, g7⟩
           · refine .inl ⟨g2, ?_⟩
             rcases h12 with h12 | h12 <;> omega
           · refine .inr ⟨b2, k2, q2, g3, g4, g5, g6, ?_⟩
             rcases h12 with h12 | h12
             · exact .inl (by omega)
             · rcases g7 with g7 | g7
               · exact .inl (by omega)
               · exact .inr (g7.trans h12)
 · -- wd
   rintro i (h | rfl) hei g hg hlt0
   · exact I.wd i h hei g hg hlt0
   · rcases hst.wdom g hg with h | ⟨_, h1, b0, k0, q0, h2, h3, h4⟩
     · cases h
     · have h3 : (Hs i).tr.get b0 = some q0 := h3
       refine ⟨by rw [← F.ban i (by omega)]; exact ban_sub h1, ?_⟩
       rcases I.new b0 k0 (near_inv h2).2 with g1 | ⟨_, p, g1, g2⟩
       · obtain ⟨p, g2⟩ := hb0 b0 k0 g1
         exact ⟨b0, k0, p, g1, g2, ((F.alike (Nat.zero_le _) (by omega) g2 h3).1).trans h4⟩
       · have e1 := (F.alike (by omega) (Nat.le_refl _) h3 g1).1
         rw [← e1, h4] at g2
         rcases g2 with ⟨g2, _⟩ | ⟨b2, k2, q2, g3, g4, g5, _⟩
         · have := (F.wf 0 (by omega)).od
           omega
         · exact ⟨b2, k2, q2, g3, g4, g5⟩
 · -- full
   rintro d (h | rfl) b hn
   · obtain ⟨k, hk⟩ := I.full d h b hn
     exact ⟨k, join_left b k hk⟩
   · obtain ⟨k, hk⟩ := hst.full b hn.1 (by rw [← hnx]; exact hn.2)
     exact ⟨k, hext1 b k hk⟩
end
end Go.Proofs.Ytkgbifbbpmdpgaa.Sh
