/- A region that draws its order: its run in text order, step by step. Of no program. -/
import Derived.Test.YtnoppoifepbchaaDoorSh16
namespace Go.Proofs.YtnoppoifepbchaaDoor.Sh
section
open Go.RowKit
set_option linter.unusedVariables false
set_option linter.unusedSimpArgs false
variable {bs : Inhabited Base}

/-- what an operation came to -/
def Ran (call : FuncId → List Value → Hp → Ret) (n : Nx) (v : Value) (H' : Hp) : Prop :=
 n = .val v H' ∨ (n = .skip H' ∧ v = undefS) ∨ ∃ f args H2, n = .enter f args H2 ∧ call f args H2 = .ok v H'
noncomputable def banAt (L : List Oper) (R0 : Regs) (H : Hp) (j : Nat) : List Nat := bansS L H R0 j H.ban L 0
noncomputable def rdAt (L : List Oper) (R0 R : Regs) (H : Hp) (j : Nat) (o : Oper) : Rdd := rddOf H R (banAt L R0 H j) o.op
/-- a run in text order -/
structure Trace (P : Program) (call : FuncId → List Value → Hp → Ret) (L : List Oper) (R0 : Regs) (Rs : Nat → Regs) (Hs : Nat → Hp) (V : Nat → Value) (H1 : Nat → Hp) (ex : Nat → Prop) (rd : Nat → Rdd) : Prop where
 skip : ∀ (j : Nat) (o : Oper), L[j]? = some o → ¬ ex j → wantedS L (Rs j) o.guard = some false ∧ V j = undefS ∧ Rs (j + 1) = putR (Rs j) undefS o.dst ∧ Hs (j + 1) = Hs j
 exec : ∀ (j : Nat) (o : Oper), L[j]? = some o → ex j → wantedS L (Rs j) o.guard = some true ∧ rd j = rdAt L R0 (Rs j) (Hs j) j o ∧ Ran call (opS P (Rs j) (enterD (banAt L R0 (Hs j) j) (Hs j)) o.type o.op) (V j) (H1 j) ∧
  Rs (j + 1) = putR (Rs j) (V j) o.dst ∧ Hs (j + 1) = leaveD (Hs j) (H1 j)
 apart : ∀ (i j : Nat), i < j → j < L.length → ex i → ex j → ordB L i j = true ∨ (noneIn (H1 i).wrote (rd j) = true ∧ noneIn (H1 j).wrote (rd i) = true)

theorem apart_mem {L : List Oper} {j : Nat} {r : Rdd} {wr : List Nat} : ∀ {sn : List Seen}, apartS L j r wr sn = true → ∀ s, s ∈ sn → ordB L s.at_ j = true ∨ (noneIn s.wr r = true ∧ noneIn wr s.rd = true)
 | [], _, s, hs => by cases hs
 | x :: sn, h, s, hs => by
   have h' : cond (ordB L x.at_ j || (noneIn x.wr r && noneIn wr x.rd)) (apartS L j r wr sn) false = true := h
   cases hx : (ordB L x.at_ j || (noneIn x.wr r && noneIn wr x.rd)) with
   | false => rw [hx] at h'; cases h'
   | true =>
     rw [hx] at h'
     rcases List.mem_cons.1 hs with rfl | hs
     · rcases Bool.or_eq_true_iff.1 hx with h1 | h1
       · exact .inl h1
       · exact .inr (and_split h1)
     · exact apart_mem h' s hs

section
variable {P : Program} {call : FuncId → List Value → Hp → Ret} {L : List Oper} {R0 : Regs}
theorem trace_of : ∀ (l : List Oper) (k : Nat) (sn : List Seen) (R : Regs) (H : Hp) (e : Ex) (R' : Regs) (H' : Hp), L.drop k = l → drawS P call L R0 l k sn R H = .ok e R' H' →
  e = .normal ∧ ∃ (Rs : Nat → Regs) (Hs : Nat → Hp) (V : Nat → Value) (H1 : Nat → Hp) (ex : Nat → Prop) (rd : Nat → Rdd), Rs k = R ∧ Hs k = H ∧ Rs (k + l.length) = R' ∧ Hs (k + l.length) = H' ∧
   (∀ (j : Nat) (o : Oper), k ≤ j → L[j]? = some o → ¬ ex j → wantedS L (Rs j) o.guard = some false ∧ V j = undefS ∧ Rs (j + 1) = putR (Rs j) undefS o.dst ∧ Hs (j + 1) = Hs j) ∧
   (∀ (j : Nat) (o : Oper), k ≤ j → L[j]? = some o → ex j → wantedS L (Rs j) o.guard = some true ∧ rd j = rdAt L R0 (Rs j) (Hs j) j o ∧ Ran call (opS P (Rs j) (enterD (banAt L R0 (Hs j) j) (Hs j)) o.type o.op) (V j) (H1 j) ∧
     Rs (j + 1) = putR (Rs j) (V j) o.dst ∧ Hs (j + 1) = leaveD (Hs j) (H1 j)) ∧
   (∀ (i j : Nat), k ≤ i → i < j → j < k + l.length → ex i → ex j → ordB L i j = true ∨ (noneIn (H1 i).wrote (rd j) = true ∧ noneIn (H1 j).wrote (rd i) = true)) ∧
   (∀ (j : Nat), k ≤ j → j < k + l.length → ex j → ∀ s, s ∈ sn → ordB L s.at_ j = true ∨ (noneIn s.wr (rd j) = true ∧ noneIn (H1 j).wrote s.rd = true)) := by
 intro l
 induction l with
 | nil =>
   intro k sn R H e R' H' hk hrun
   cases hrun
   have hlen : L.length ≤ k := by
    have := congrArg List.length hk
    simp at this; omega
   refine ⟨rfl, fun _ => R, fun _ => H, fun _ => undefS, fun _ => H, fun _ => False, fun _ => .none, rfl, rfl, rfl, rfl, ?_, ?_, ?_, ?_⟩
   · intro j o hj ho; have := (List.getElem?_eq_some_iff.1 ho).1; omega
   · intro j o hj ho; have := (List.getElem?_eq_some_iff.1 ho).1; omega
   · intro i j _ _ h; simp at h; omega
   · intro j hj h; simp at h; omega
 | cons o l ih =>
   intro k sn R H e R' H' hk hrun
   have hk' : L.drop (k + 1) = l := by
    have := congrArg List.tail hk
    rw [List.tail_drop] at this; exact this
   have ho : L[k]? = some o := by
    have := congrArg List.head? hk
    rw [List.head?_drop] at this
    simpa using this
   have hrun' : wantS (nextS call (fun v H' => drawNext L (rddOf H R (bansS L H R0 k H.ban L 0) o.op) o k sn H (fun sn v H => drawS P call L R0 l (Nat.succ k) sn (putR R v o.dst) H) v H') o.pos (opS P R (enterD (bansS L H R0 k H.ban L 0) H) o.type o.op))
     (drawS P call L R0 l (Nat.succ k) sn (putR R undefS o.dst) H) (wantedS L R o.guard) = .ok e R' H' := hrun
   cases hw : wantedS L R o.guard with
   | none => rw [hw] at hrun'; cases hrun'
   | some t =>
     rw [hw] at hrun'
     cases t with
     | false =>
       obtain ⟨he, Rs, Hs, V, H1, ex, rd, a1, a2, a3, a4, a5, a6, a7, a8⟩ := ih (k + 1) sn _ H e R' H' hk' hrun'
       refine ⟨he, fun i => if i = k then R else Rs i, fun i => if i = k then H else Hs i, fun i => if i = k then undefS else V i, H1, fun i => i ≠ k ∧ ex i, rd, by simp, by simp, ?_, ?_, ?_, ?_, ?_, ?_⟩
       · simp only [List.length_cons]; rw [if_neg (by omega)]; rw [show k + (l.length + 1) = k + 1 + l.length by omega]; exact a3
       · simp only [List.length_cons]; rw [if_neg (by omega)]; rw [show k + (l.length + 1) = k + 1 + l.length by omega]; exact a4
       · intro j x hj hx hex
         by_cases e1 : j = k
         · subst e1
           rw [ho] at hx; cases hx
           simp only [if_pos, if_neg (show ¬ j + 1 = j by omega)]
           exact ⟨hw, trivial, a1, a2⟩
         · simp only [if_neg e1, if_neg (show ¬ j + 1 = k by omega)]
           exact a5 j x (by omega) hx (fun h => hex ⟨e1, h⟩)
       · intro j x hj hx hex
         simp only [if_neg hex.1, if_neg (show ¬ j + 1 = k by omega)]
         exact a6 j x (by have := hex.1; omega) hx hex.2
       · intro i j hi hij hj hei hej
         simp only [List.length_cons] at hj
         exact a7 i j (by have := hei.1; omega) hij (by omega) hei.2 hej.2
       · intro j hj hjl hej s hs
         simp only [List.length_cons] at hjl
         exact a8 j (by have := hej.1; omega) (by omega) hej.2 s hs
     | true =>
       have hgo : ∃ v H2, Ran call (opS P R (enterD (bansS L H R0 k H.ban L 0) H) o.type o.op) v H2 ∧ drawNext L (rddOf H R (bansS L H R0 k H.ban L 0) o.op) o k sn H (fun sn v H => drawS P call L R0 l (Nat.succ k) sn (putR R v o.dst) H) v H2 = .ok e R' H' := by
        have h2 : nextS call (fun v H' => drawNext L (rddOf H R (bansS L H R0 k H.ban L 0) o.op) o k sn H (fun sn v H => drawS P call L R0 l (Nat.succ k) sn (putR R v o.dst) H) v H') o.pos (opS P R (enterD (bansS L H R0 k H.ban L 0) H) o.type o.op) = .ok e R' H' := hrun'
        cases hop : opS P R (enterD (bansS L H R0 k H.ban L 0) H) o.type o.op with
        | val v H2 => rw [hop] at h2; exact ⟨v, H2, .inl rfl, h2⟩
        | skip H2 => rw [hop] at h2; exact ⟨undefS, H2, .inr (.inl ⟨rfl, rfl⟩), h2⟩
        | enter f args H3 =>
          rw [hop] at h2
          have h3 : (match call f args H3 with | .ok v H' => drawNext L (rddOf H R (bansS L H R0 k H.ban L 0) o.op) o k sn H (fun sn v H => drawS P call L R0 l (Nat.succ k) sn (putR R v o.dst) H) v H' | .bad why l => .bad why (o.pos :: l)) = .ok e R' H' := (nextS_enter ..).symm.trans h2
          cases hcl : call f args H3 with
          | bad n l => rw [hcl] at h3; cases h3
          | ok v H2 => rw [hcl] at h3; exact ⟨v, H2, .inr (.inr ⟨f, args, H3, rfl, hcl⟩), h3⟩
        | bad n => rw [hop] at h2; cases h2
       obtain ⟨v, H2, hran, hdn⟩ := hgo
       unfold drawNext at hdn
       obtain ⟨hap, hdn⟩ := (cond_split hdn).resolve_right (fun h => by cases h.2)
       obtain ⟨he, Rs, Hs, V, H1, ex, rd, a1, a2, a3, a4, a5, a6, a7, a8⟩ := ih (k + 1) _ _ _ e R' H' hk' hdn
       refine ⟨he, fun i => if i = k then R else Rs i, fun i => if i = k then H else Hs i, fun i => if i = k then v else V i, fun i => if i = k then H2 else H1 i, fun i => i = k ∨ ex i ∧ i ≠ k, fun i => if i = k then rddOf H R (bansS L H R0 k H.ban L 0) o.op else rd i, by simp, by simp, ?_, ?_, ?_, ?_, ?_, ?_⟩
       · simp only [List.length_cons]; rw [if_neg (by omega)]; rw [show k + (l.length + 1) = k + 1 + l.length by omega]; exact a3
       · simp only [List.length_cons]; rw [if_neg (by omega)]; rw [show k + (l.length + 1) = k + 1 + l.length by omega]; exact a4
       · intro j x hj hx hex
         have e1 : j ≠ k := fun e1 => hex (.inl e1)
         simp only [if_neg e1, if_neg (show ¬ j + 1 = k by omega)]
         exact a5 j x (by omega) hx (fun h => hex (.inr ⟨h, e1⟩))
       · intro j x hj hx hex
         by_cases e1 : j = k
         · subst e1
           rw [ho] at hx; cases hx
           simp only [if_pos, if_neg (show ¬ j + 1 = j by omega)]
           exact ⟨hw, rfl, hran, a1, a2⟩
         · simp only [if_neg e1, if_neg (show ¬ j + 1 = k by omega)]
           exact a6 j x (by omega) hx (hex.elim (fun h => absurd h e1) (fun h => h.1))
       · intro i j hi hij hj hei hej
         simp only [List.length_cons] at hj
         have ej : j ≠ k := by omega
         have hej' := hej.elim (fun h => absurd h ej) (fun h => h.1)
         by_cases ei : i = k
         · subst ei
           simp only [if_pos, if_neg ej]
           exact a8 j (by omega) (by omega) hej' ⟨i, rddOf H R (bansS L H R0 i H.ban L 0) o.op, H2.wrote⟩ (List.mem_cons_self ..)
         · simp only [if_neg ei, if_neg ej]
           exact a7 i j (by omega) hij (by omega) (hei.elim (fun h => absurd h ei) (fun h => h.1)) hej'
       · intro j hj hjl hej s hs
         simp only [List.length_cons] at hjl
         by_cases ej : j = k
         · subst ej
           simp only [if_pos]
           exact apart_mem hap s hs
         · simp only [if_neg ej]
           exact a8 j (by omega) (by omega) (hej.elim (fun h => absurd h ej) (fun h => h.1)) s (List.mem_cons_of_mem _ hs)
end
end
section
open Go.RowKit
set_option linter.unusedVariables false
set_option linter.unusedSimpArgs false
variable {bs : Inhabited Base}

theorem mem_joinW (old g : Nat) : ∀ (l m : List Nat), g ∈ joinW old l m ↔ g ∈ m ∨ (g ∈ l ∧ g < old)
 | [], m => by
   show g ∈ m ↔ _
   simp
 | x :: r, m => by
   have ih := mem_joinW old g r m
   show g ∈ cond (Nat.blt x old && !(memN (joinW old r m) x)) (x :: joinW old r m) (joinW old r m) ↔ _
   cases h : (Nat.blt x old && !(memN (joinW old r m) x)) with
   | true =>
     obtain ⟨h1, h2⟩ := and_split h
     have h1 : x < old := Nat.le_of_ble_eq_true h1
     show g ∈ x :: joinW old r m ↔ _
     rw [List.mem_cons, ih, List.mem_cons]
     constructor
     · rintro (rfl | h | h)
       · exact .inr ⟨.inl rfl, h1⟩
       · exact .inl h
       · exact .inr ⟨.inr h.1, h.2⟩
     · rintro (h | ⟨rfl | h, h'⟩)
       · exact .inr (.inl h)
       · exact .inl rfl
       · exact .inr (.inr ⟨h, h'⟩)
   | false =>
     show g ∈ joinW old r m ↔ _
     rw [ih, List.mem_cons]
     constructor
     · rintro (h | h)
       · exact .inl h
       · exact .inr ⟨.inr h.1, h.2⟩
     · rintro (h' | ⟨rfl | h', h''⟩)
       · exact .inl h'
       · have h3 : Nat.blt g old = true := Nat.ble_eq_true_of_le h''
         rw [h3] at h
         exact ih.1 ((memN_eq _ _).1 (by simpa using h))
       · exact .inr ⟨h', h''⟩
theorem bans_spec {L : List Oper} {H : Hp} {R0 : Regs} {j : Nat} {base : List Nat} : ∀ (l : List Oper) (i : Nat), (∀ g, g ∈ base → g ∈ bansS L H R0 j base l i) ∧ ∀ g, g ∈ bansS L H R0 j base l i → g ∈ base ∨ ∃ o : Oper, storeAt H R0 o.op = some g
 | [], i => ⟨fun g h => h, fun g h => .inl h⟩
 | o :: r, i => by
   obtain ⟨ih1, ih2⟩ := bans_spec r (Nat.succ i) (L := L) (H := H) (R0 := R0) (j := j) (base := base)
   have e : bansS L H R0 j base (o :: r) i = (match storeAt H R0 o.op with
    | some b => cond (Nat.beq i j || ordB L i j) (bansS L H R0 j base r (Nat.succ i)) (b :: bansS L H R0 j base r (Nat.succ i))
    | none => bansS L H R0 j base r (Nat.succ i)) := rfl
   rw [e]
   cases hs : storeAt H R0 o.op with
   | none => exact ⟨ih1, ih2⟩
   | some b =>
     simp only
     cases hc : (Nat.beq i j || ordB L i j) with
     | true => exact ⟨ih1, ih2⟩
     | false =>
       refine ⟨fun g h => List.mem_cons_of_mem _ (ih1 g h), fun g h => ?_⟩
       rcases List.mem_cons.1 h with rfl | h
       · exact .inr ⟨o, hs⟩
       · exact ih2 g h
theorem storeAt_lt {H : Hp} (hw : WF H) {R : Regs} {o : Op} {g : Nat} (h : storeAt H R o = some g) : g < H.next := by
 unfold storeAt at h
 split at h
 · unfold grpAt at h
   split at h
   · split at h
     · rename_i q hq
       cases h
       have h1 := hw.grp _ q hq
       have h2 := hw.pos hq
       omega
     · cases h
   · cases h
 · cases h
theorem memN_false {l : List Nat} {i : Nat} : memN l i = false ↔ i ∉ l := by
 rw [← memN_eq]
 cases memN l i <;> simp
theorem ban_sub {L : List Oper} {R0 : Regs} {H : Hp} {j g : Nat} (h : memN (banAt L R0 H j) g = false) : memN H.ban g = false := by
 rw [memN_false] at h ⊢
 exact fun h' => h ((bans_spec L 0).1 g h')
theorem ban_new {L : List Oper} {R0 : Regs} {H : Hp} (hw : WF H) {j g : Nat} (h : memN H.ban g = false) (h' : memN (banAt L R0 H j) g = true) : g < H.next := by
 rw [memN_false] at h
 rw [memN_eq] at h'
 rcases (bans_spec L 0).2 g h' with h1 | ⟨o, h1⟩
 · exact absurd h1 h
 · exact storeAt_lt hw h1
theorem enter_WF {H : Hp} (hw : WF H) (ban : List Nat) : WF (enterD ban H) := ⟨Nat.le_refl _, hw.nx, hw.inb, hw.none, hw.grp, hw.new, hw.mono, hw.all⟩
theorem leave_WF {H H1 : Hp} (hw : WF H) (hw1 : WF H1) (h : H.next ≤ H1.next) : WF (leaveD H H1) := ⟨Nat.le_trans hw.od h, hw1.nx, hw1.inb, hw1.none, hw1.grp, hw1.new, hw1.mono, hw1.all⟩
theorem enter_HR {A A' : Nat → Prop} {β : Bij} {H : Hp} {w : World} (hr : HR A β H w) (ban : List Nat) (hA : ∀ g, A' g → A g) : HR A' β (enterD ban H) w :=
 ⟨hr.dom, fun b k q hb hq hl ha => hr.row b k q hb hq hl (hA _ ha), hr.share, hr.base, hr.fix, hr.apart⟩

section
variable {L : List Oper} {R0 : Regs} {β β1 : Bij} {H H1 : Hp} {w w1 : World} {j : Nat}
theorem leave_ok (hw : WF H) (hr : HR (Ab H.ban) β H w) (hst : St β (enterD (banAt L R0 H j) H) w β1 H1 w1) (hr1 : HR (Ab (banAt L R0 H j)) β1 H1 w1) (hw1 : WF H1) :
  HR (Ab H.ban) β1 (leaveD H H1) w1 ∧ St β H w β1 (leaveD H H1) w1 := by
 have hwr : ∀ g, g ∈ H1.wrote → memN (banAt L R0 H j) g = false := fun g hg => by
  rcases hst.wdom g hg with h | ⟨_, h, _⟩
  · cases h
  · exact h
 have hlt : ∀ b q, H.tr.get b = some q → q.grp < H.next := fun b q hq => by
  have h1 := hw.grp b q hq
  have h2 := hw.pos hq
  omega
 refine ⟨⟨hr1.dom, fun b k q hb hq hl ha => ?_, hr1.share, hr1.base, hr1.fix, hr1.apart⟩, ⟨hst.os, hst.tape, hst.output, hst.size, hst.ext, hst.next, rfl, rfl, fun g hg => (mem_joinW _ _ _ _).2 (.inl hg), ?_, ?_, hst.same, ?_, ?_, hst.full⟩⟩
 · have hq : H1.tr.get b = some q := hq
   have hl : H1.since q ≤ b := hl
   cases hba : memN (banAt L R0 H j) q.grp with
   | false => exact hr1.row b k q hb hq hl hba
   | true =>
     rcases hst.new b k hb with h0 | ⟨h1, h2, q', h3, h4⟩
     · obtain ⟨_, hks, q0, hq0, _⟩ := hr.dom b k h0
       obtain ⟨q2, e1, _, e3⟩ := hst.same b q0 hq0
       rw [hq] at e1; cases e1
       have hnw : q0.grp ∉ H1.wrote := fun h => by
        have := hwr _ h
        rw [← e3, hba] at this; cases this
       obtain ⟨e4, e5⟩ := hst.keep b q0 hq0 (hlt b q0 hq0) hnw
       rw [hq] at e4; cases e4
       have hl' : H.since q ≤ b := by rw [e5] at hl; exact hl
       refine (hr.row b k q h0 hq0 hl' ha).mono hst.ext (hst.block _ hks (fun b' k' q' hb' hq' e => ?_))
       have := hr.share b' b k' k q' q hb' h0 hq' hq0 e
       rw [this]
       exact ⟨hlt b q hq0, hnw⟩
     · rw [hq] at h3; cases h3
       rcases h4 with ⟨h4, _⟩ | ⟨b0, k0, q0, h5, h6, h7, h8, _⟩
       · have h9 := ban_new (L := L) (R0 := R0) (j := j) hw ha hba
         have : H.next ≤ q.grp := h4
         omega
       · exfalso
         refine h8 ⟨hlt b0 q0 h6, fun h => ?_⟩
         have := hwr _ h
         rw [h7, hba] at this; cases this
 · intro r hrs hk
   refine hst.block r hrs (fun b k q hb hq e => ⟨hlt b q hq, fun h => ?_⟩)
   obtain ⟨h1, h2⟩ := hk b k q hb hq e
   exact h2 ((mem_joinW _ _ _ _).2 (.inr ⟨h, h1⟩))
 · intro b k hb
   rcases hst.new b k hb with h0 | ⟨h1, h2, q', h3, h4⟩
   · exact .inl h0
   · refine .inr ⟨h1, h2, q', h3, ?_⟩
     rcases h4 with h4 | ⟨b0, k0, q0, h5, h6, h7, h8, h9⟩
     · exact .inl h4
     · refine .inr ⟨b0, k0, q0, h5, h6, h7, fun hh => ?_, h9⟩
       have hin : q0.grp ∈ H1.wrote := by
        by_cases h : q0.grp ∈ H1.wrote
        · exact h
        · exact absurd ⟨hlt b0 q0 h6, h⟩ h8
       exact hh.2 ((mem_joinW _ _ _ _).2 (.inr ⟨hin, hh.1⟩))
 · intro b q hq h1 h2
   exact hst.keep b q hq (hlt b q hq) (fun h => h2 ((mem_joinW _ _ _ _).2 (.inr ⟨h, h1⟩)))
 · intro g hg
   rcases (mem_joinW _ _ _ _).1 hg with h | ⟨h, h'⟩
   · exact .inl h
   · rcases hst.wdom g h with h3 | ⟨_, h4, h5⟩
     · cases h3
     · exact .inr ⟨h', ban_sub h4, h5⟩
end

section
variable {P : Program} {call : FuncId → List Value → Hp → Ret} {A : Nat → Prop} {β : Bij} {H : Hp} {w : World}
theorem v_ne {s : Sem Value} {w' : World} {f : FuncId} {l : Array Value} : (do pure (Next.value (← s)) : Sem Next).run P w ≠ .ok (.enter f l) w' := by
 intro h
 rw [Sem.run_bind] at h
 cases hs : s.run P w with
 | ok v w2 => rw [hs] at h; simp at h
 | halt x w2 => rw [hs] at h; simp at h
theorem u_ne {s : Sem Unit} {w' : World} {f : FuncId} {l : Array Value} : (do s; pure Next.skip : Sem Next).run P w ≠ .ok (.enter f l) w' := by
 intro h
 rw [Sem.run_bind] at h
 cases hs : s.run P w with
 | ok v w2 => rw [hs] at h; simp at h
 | halt x w2 => rw [hs] at h; simp at h
theorem enter_but {R : Regs} {a : Act} (o : Oper) {f : FuncId} {args : List Value} {H2 : Hp} (e : opS P R H o.type o.op = .enter f args H2) {l : Array Value} {w' : World} (h1 : (execOp a.eval o).run P w = .ok (.enter f l) w') (ban : List Nat) : rddOf H R ban o.op = .but ban := by
 cases ho : o.op with
 | call c =>
   rw [ho] at e
   have e' : callC P R H o.type c = .enter f args H2 := e
   unfold callC at e'
   have hr : rddOf H R ban (.call c) = cond (pureO (.call c)) .none (.but ban) := rfl
   have hp : pureO (.call c) = (match c.callee with | .builtin b => pureB b | _ => false) := rfl
   rw [hr, hp]
   cases hc : c.callee with
   | value g => rfl
   | invoke r m => rfl
   | builtin b =>
     exfalso
     rw [hc] at e'
     simp only [execOp, ho, resolve, hc, pure_bind, invoke] at h1
     cases b <;> first | (simp only [builtinS] at e'; cases e'; done) | exact v_ne h1
 | store t x v => simp only [execOp, ho] at h1; exact absurd h1 u_ne
 | move x => simp [execOp, ho] at h1
 | assign x => simp [execOp, ho] at h1
 | pick c x y =>
   simp only [execOp, ho, Sem.run_bind] at h1
   cases hs : (asBool (a.eval c)).run P w with
   | ok v w2 => rw [hs] at h1; simp at h1
   | halt x w2 => rw [hs] at h1; simp at h1
 | nilCheck x =>
   rw [ho] at e
   have e' : nilS H (evS R x) = .enter f args H2 := e
   unfold nilS at e'
   split at e' <;> cases e'
 | alloc t => simp only [execOp, ho] at h1; exact absurd h1 v_ne
 | makeMap t x => simp only [execOp, ho] at h1; exact absurd h1 v_ne
 | lookup t x y c => simp only [execOp, ho] at h1; exact absurd h1 v_ne
 | mapUpdate t x y z => simp only [execOp, ho] at h1; exact absurd h1 u_ne
 | box t x => simp only [execOp, ho] at h1; exact absurd h1 v_ne
 | build t ps => simp only [execOp, ho] at h1; exact absurd h1 v_ne
 | buildSlice t n ps => simp only [execOp, ho] at h1; exact absurd h1 v_ne
 | load t x => simp only [execOp, ho] at h1; exact absurd h1 v_ne
 | binOp op t x y t2 => simp only [execOp, ho] at h1; exact absurd h1 v_ne
 | unOp op t x => simp only [execOp, ho] at h1; exact absurd h1 v_ne
 | convert s d x => simp only [execOp, ho] at h1; exact absurd h1 v_ne
 | makeSlice t l c => simp only [execOp, ho] at h1; exact absurd h1 v_ne
 | slice t x lo hi mx => simp only [execOp, ho] at h1; exact absurd h1 v_ne
 | fieldAddr t x k => simp only [execOp, ho] at h1; exact absurd h1 v_ne
 | field t x k => simp only [execOp, ho] at h1; exact absurd h1 v_ne
 | indexAddr t x ix => simp only [execOp, ho] at h1; exact absurd h1 v_ne
 | index t x ix => simp only [execOp, ho] at h1; exact absurd h1 v_ne
 | extract x k => simp only [execOp, ho] at h1; exact absurd h1 v_ne
 | _ => rw [ho] at e; simp only [opS] at e; cases e
/-- an operation and its call -/
theorem ran_does (hc : CallOk P call) (hw : WF H) (hr : HR A β H w) {R : Regs} {a : Act} (h : RR β R a.tmps) (o : Oper) (hA : ∀ i, (rddOf H R H.ban o.op).has i = true → memN H.ban i = false → A i) {v : Value} {H' : Hp} (hran : Ran call (opS P R H o.type o.op) v H') (K : Act → World → Prop) (Q : Exit → Act → World → Prop)
  (hK : ∀ β' v' w', St β H w β' H' w' → VR β' v v' → (HR A β' H' w' ∨ HR (Ab H.ban) β' H' w') → WF H' → K (a.put o.dst v') w') : o.wp P a w K Q := by
 have hdo := op_does (P := P) hw hr h o hA
 unfold Oper.wp
 rcases hran with e | ⟨e, rfl⟩ | ⟨f, args, H2, e, e2⟩
 · rw [e] at hdo
   obtain ⟨β', v', w', h1, h2, h3, h4, h5⟩ := hdo
   rw [h1, Oper.upon_value]
   exact hK β' v' w' h2 h3 (.inl h4) h5
 · rw [e] at hdo
   obtain ⟨w', h1, h2, h4, h5⟩ := hdo
   rw [h1, Oper.upon_skip]
   exact hK β undef w' h2 (VR.undef β) (.inl h4) h5
 · rw [e] at hdo
   obtain ⟨rfl, args', h1, h2⟩ := hdo
   have hcall : rddOf H2 R H2.ban o.op = .but H2.ban := enter_but o e h1 H2.ban
   rw [h1, Oper.upon_enter]
   have hr' : HR (Ab H2.ban) β H2 w := ⟨hr.dom, fun b k q hb hq hl ha => hr.row b k q hb hq hl (hA _ (by rw [hcall]; show (!(memN H2.ban q.grp)) = true; rw [show memN H2.ban q.grp = false from ha]; rfl) ha), hr.share, hr.base, hr.fix, hr.apart⟩
   refine (hc f args H2 v H' e2 β w args' hw hr' h2).mono ?_
   rintro e1 w1 ⟨β', v', rfl, h3, h4, h5, h6⟩
   exact hK β' v' w1 h4 h3 (.inr h6) h5
/-- .. whatever it is for -/
theorem ran_some (hc : CallOk P call) (hw : WF H) (hr : HR (Ab H.ban) β H w) {R : Regs} {a : Act} (h : RR β R a.tmps) (o : Oper) {v : Value} {H' : Hp} (hran : Ran call (opS P R H o.type o.op) v H') :
  ∃ β' v' w', St β H w β' H' w' ∧ VR β' v v' ∧ HR (Ab H.ban) β' H' w' ∧ WF H' := by
 have hdo := op_does (P := P) hw hr h o (fun i _ hi => hi)
 rcases hran with e | ⟨e, rfl⟩ | ⟨f, args, H2, e, e2⟩
 · rw [e] at hdo
   obtain ⟨β', v', w', h1, h2, h3, h4, h5⟩ := hdo
   exact ⟨β', v', w', h2, h3, h4, h5⟩
 · rw [e] at hdo
   obtain ⟨w', h1, h2, h4, h5⟩ := hdo
   exact ⟨β, undef, w', h2, VR.undef β, h4, h5⟩
 · rw [e] at hdo
   obtain ⟨rfl, args', h1, h2⟩ := hdo
   obtain ⟨e1, w1, fr, ⟨β', v', _, h3, h4, h5, h6⟩, _⟩ := hc f args H2 v H' e2 β w args' hw hr h2 []
   exact ⟨β', v', w1, h4, h3, h6, h5⟩
end
end
end Go.Proofs.YtnoppoifepbchaaDoor.Sh
