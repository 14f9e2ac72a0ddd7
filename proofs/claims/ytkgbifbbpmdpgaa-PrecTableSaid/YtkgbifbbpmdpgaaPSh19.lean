/- A region that draws its order: into an operation and out of it; what holds in text order. Of no program. -/
import Derived.Test.YtkgbifbbpmdpgaaPSh17
set_option linter.unusedVariables false
set_option linter.unusedSimpArgs false
namespace Go.Proofs.Ytkgbifbbpmdpgaa.Sh
section
open Go.RowKit
variable {bs : Inhabited Base}
theorem mem_joinW (old g : Nat) : ∀ (l m : List Nat), g ∈ joinW old l m ↔ g ∈ m ∨ (g ∈ l ∧ g < old)
 | [], m => by
   show g ∈ m ↔ _
   simp
 | x :: r, m => by
   have ih := mem_joinW old g r m
   show g ∈ cond (Nat.blt x old && !(memN (joinW old r m) x)) (x :: joinW old r m) (joinW old r m) ↔ _
   cases h : (Nat.blt x old && !(memN (joinW old r m) x)) with
   | true =>
     obtain ⟨h1, h2⟩ := and_split h
     have h1 : x < old := Nat.le_of_ble_eq_true h1
     show g ∈ x :: joinW old r m ↔ _
     rw [List.mem_cons, ih, List.mem_cons]
     constructor
     · rintro (rfl | h | h)
       · exact .inr ⟨.inl rfl, h1⟩
       · exact .inl h
       · exact .inr ⟨.inr h.1, h.2⟩
     · rintro (h | ⟨rfl | h, h'⟩)
       · exact .inr (.inl h)
       · exact .inl rfl
       · exact .inr (.inr ⟨h, h'⟩)
   | false =>
     show g ∈ joinW old r m ↔ _
     rw [ih, List.mem_cons]
     constructor
     · rintro (h | h)
       · exact .inl h
       · exact .inr ⟨.inr h.1, h.2⟩
     · rintro (h' | ⟨rfl | h', h''⟩)
       · exact .inl h'
       · have h3 : Nat.blt g old = true := Nat.ble_eq_true_of_le h''
         rw [h3] at h
         exact ih.1 ((memN_eq _ _).1 (by simpa using h))
       · exact .inr ⟨h', h''⟩
theorem bans_spec {L : List Oper} {H : Hp} {R0 : Regs} {j : Nat} {base : List Nat} : ∀ (l : List Oper) (i : Nat), (∀ g, g ∈ base → g ∈ bansS L H R0 j base l i) ∧ ∀ g, g ∈ bansS L H R0 j base l i → g ∈ base ∨ ∃ o : Oper, storeAt H R0 o.op = some g
 | [], i => ⟨fun g h => h, fun g h => .inl h⟩
 | o :: r, i => by
   obtain ⟨ih1, ih2⟩ := bans_spec r (Nat.succ i) (L := L) (H := H) (R0 := R0) (j := j) (base := base)
   have e : bansS L H R0 j base (o :: r) i = (match storeAt H R0 o.op with
    | some b => cond (Nat.beq i j || ordB L i j) (bansS L H R0 j base r (Nat.succ i)) (b :: bansS L H R0 j base r (Nat.succ i))
    | none => bansS L H R0 j base r (Nat.succ i)) := rfl
   rw [e]
   cases hs : storeAt H R0 o.op with
   | none => exact ⟨ih1, ih2⟩
   | some b =>
     simp only
     cases hc : (Nat.beq i j || ordB L i j) with
     | true => exact ⟨ih1, ih2⟩
     | false =>
       refine ⟨fun g h => List.mem_cons_of_mem _ (ih1 g h), fun g h => ?_⟩
       rcases List.mem_cons.1 h with rfl | h
       · exact .inr ⟨o, hs⟩
       · exact ih2 g h
theorem storeAt_lt {H : Hp} (hw : WF H) {R : Regs} {o : Op} {g : Nat} (h : storeAt H R o = some g) : g < H.next := by
 unfold storeAt at h
 split at h
 · unfold grpAt at h
   split at h
   · split at h
     · rename_i q hq
       cases h
       have h1 := hw.grp _ q hq
       have h2 := hw.pos hq
       omega
     · cases h
   · cases h
 · cases h
theorem memN_false {l : List Nat} {i : Nat} : memN l i = false ↔ i ∉ l := by
 rw [← memN_eq]
 cases memN l i <;> simp
theorem ban_sub {L : List Oper} {R0 : Regs} {H : Hp} {j g : Nat} (h : memN (banAt L R0 H j) g = false) : memN H.ban g = false := by
 rw [memN_false] at h ⊢
 exact fun h' => h ((bans_spec L 0).1 g h')
theorem ban_new {L : List Oper} {R0 : Regs} {H : Hp} (hw : WF H) {j g : Nat} (h : memN H.ban g = false) (h' : memN (banAt L R0 H j) g = true) : g < H.next := by
 rw [memN_false] at h
 rw [memN_eq] at h'
 rcases (bans_spec L 0).2 g h' with h1 | ⟨o, h1⟩
 · exact absurd h1 h
 · exact storeAt_lt hw h1
theorem enter_WF {H : Hp} (hw : WF H) (ban : List Nat) : WF (enterD ban H) := ⟨Nat.le_refl _, hw.nx, hw.inb, hw.none, hw.grp, hw.new, hw.mono, hw.all⟩
theorem leave_WF {H H1 : Hp} (hw : WF H) (hw1 : WF H1) (h : H.next ≤ H1.next) : WF (leaveD H H1) := ⟨Nat.le_trans hw.od h, hw1.nx, hw1.inb, hw1.none, hw1.grp, hw1.new, hw1.mono, hw1.all⟩
theorem enter_HR {A A' : Nat → Prop} {β : Bij} {H : Hp} {w : World} (hr : HR A β H w) (ban : List Nat) (hA : ∀ g, A' g → A g) : HR A' β (enterD ban H) w :=
 ⟨hr.dom, fun b k q hb hq hl ha => hr.row b k q hb hq hl (hA _ ha), hr.share, hr.base, hr.fix, hr.apart⟩
section
variable {L : List Oper} {R0 : Regs} {β β1 : Bij} {H H1 : Hp} {w w1 : World} {j : Nat}
theorem leave_ok (hw : WF H) (hr : HR (Ab H.ban) β H w) (hst : St β (enterD (banAt L R0 H j) H) w β1 H1 w1) (hr1 : HR (Ab (banAt L R0 H j)) β1 H1 w1) (hw1 : WF H1) :
  HR (Ab H.ban) β1 (leaveD H H1) w1 ∧ St β H w β1 (leaveD H H1) w1 := by
 have hwr : ∀ g, g ∈ H1.wrote → memN (banAt L R0 H j) g = false := fun g hg => by
  rcases hst.wdom g hg with h | ⟨_, h, _⟩
  · cases h
  · exact h
 have hlt : ∀ b q, H.tr.get b = some q → q.grp < H.next := fun b q hq => by
  have h1 := hw.grp b q hq
  have h2 := hw.pos hq
  omega
 refine ⟨⟨hr1.dom, fun b k q hb hq hl ha => ?_, hr1.share, hr1.base, hr1.fix, hr1.apart⟩, ⟨hst.os, hst.tape, hst.output, hst.size, hst.ext, hst.next, rfl, rfl, fun g hg => (mem_joinW _ _ _ _).2 (.inl hg), ?_, ?_, hst.same, ?_, ?_, hst.full⟩⟩
 · have hq : H1.tr.get b = some q := hq
   have hl : H1.since q ≤ b := hl
   cases hba : memN (banAt L R0 H j) q.grp with
   | false => exact hr1.row b k q hb hq hl hba
   | true =>
     rcases hst.new b k hb with h0 | ⟨h1, h2, q', h3, h4⟩
     · obtain ⟨_, hks, q0, hq0, _⟩ := hr.dom b k h0
       obtain ⟨q2, e1, _, e3⟩ := hst.same b q0 hq0
       rw [hq] at e1; cases e1
       have hnw : q0.grp ∉ H1.wrote := fun h => by
        have := hwr _ h
        rw [← e3, hba] at this; cases this
       obtain ⟨e4, e5⟩ := hst.keep b q0 hq0 (hlt b q0 hq0) hnw
       rw [hq] at e4; cases e4
       have hl' : H.since q ≤ b := by rw [e5] at hl; exact hl
       refine (hr.row b k q h0 hq0 hl' ha).mono hst.ext (hst.block _ hks (fun b' k' q' hb' hq' e => ?_))
       have := hr.share b' b k' k q' q hb' h0 hq' hq0 e
       rw [this]
       exact ⟨hlt b q hq0, hnw⟩
     · rw [hq] at h3; cases h3
       rcases h4 with ⟨h4, _⟩ | ⟨b0, k0, q0, h5, h6, h7, h8, _⟩
       · have h9 := ban_new (L := L) (R0 := R0) (j := j) hw ha hba
         have : H.next ≤ q.grp := h4
         omega
       · exfalso
         refine h8 ⟨hlt b0 q0 h6, fun h => ?_⟩
         have := hwr _ h
         rw [h7, hba] at this; cases this
 · intro r hrs hk
   refine hst.block r hrs (fun b k q hb hq e => ⟨hlt b q hq, fun h => ?_⟩)
   obtain ⟨h1, h2⟩ := hk b k q hb hq e
   exact h2 ((mem_joinW _ _ _ _).2 (.inr ⟨h, h1⟩))
 · intro b k hb
   rcases hst.new b k hb with h0 | ⟨h1, h2, q', h3, h4⟩
   · exact .inl h0
   · refine .inr ⟨h1, h2, q', h3, ?_⟩
     rcases h4 with h4 | ⟨b0, k0, q0, h5, h6, h7, h8, h9⟩
     · exact .inl h4
     · refine .inr ⟨b0, k0, q0, h5, h6, h7, fun hh => ?_, h9⟩
       have hin : q0.grp ∈ H1.wrote := by
        by_cases h : q0.grp ∈ H1.wrote
        · exact h
        · exact absurd ⟨hlt b0 q0 h6, h⟩ h8
       exact hh.2 ((mem_joinW _ _ _ _).2 (.inr ⟨hin, hh.1⟩))
 · intro b q hq h1 h2
   exact hst.keep b q hq (hlt b q hq) (fun h => h2 ((mem_joinW _ _ _ _).2 (.inr ⟨h, h1⟩)))
 · intro g hg
   rcases (mem_joinW _ _ _ _).1 hg with h | ⟨h, h'⟩
   · exact .inl h
   · rcases hst.wdom g h with h3 | ⟨_, h4, h5⟩
     · cases h3
     · exact .inr ⟨h', ban_sub h4, h5⟩
end
section
variable {P : Program} {call : FuncId → List Value → Hp → Ret} {A : Nat → Prop} {β : Bij} {H : Hp} {w : World}
theorem v_ne {s : Sem Value} {w' : World} {f : FuncId} {l : Array Value} : (do pure (Next.value (← s)) : Sem Next).run P w ≠ .ok (.enter f l) w' := by
 intro h
 rw [Sem.run_bind] at h
 cases hs : s.run P w with
 | ok v w2 => rw [hs] at h; simp at h
 | halt x w2 => rw [hs] at h; simp at h
theorem u_ne {s : Sem Unit} {w' : World} {f : FuncId} {l : Array Value} : (do s; pure Next.skip : Sem Next).run P w ≠ .ok (.enter f l) w' := by
 intro h
 rw [Sem.run_bind] at h
 cases hs : s.run P w with
 | ok v w2 => rw [hs] at h; simp at h
 | halt x w2 => rw [hs] at h; simp at h
theorem enter_but {R : Regs} {a : Act} (o : Oper) {f : FuncId} {args : List Value} {H2 : Hp} (e : opS P R H o.type o.op = .enter f args H2) {l : Array Value} {w' : World} (h1 : (execOp a.eval o).run P w = .ok (.enter f l) w') (ban : List Nat) : rddOf H R ban o.op = .but ban := by
 cases ho : o.op with
 | call c =>
   rw [ho] at e
   have e' : callC P R H o.type c = .enter f args H2 := e
   unfold callC at e'
   have hr : rddOf H R ban (.call c) = cond (pureO (.call c)) .none (.but ban) := rfl
   have hp : pureO (.call c) = (match c.callee with | .builtin b => pureB b | _ => false) := rfl
   rw [hr, hp]
   cases hc : c.callee with
   | value g => rfl
   | invoke r m => rfl
   | builtin b =>
     exfalso
     rw [hc] at e'
     simp only [execOp, ho, resolve, hc, pure_bind, invoke] at h1
     cases b <;> first | (simp only [builtinS] at e'; cases e'; done) | exact v_ne h1
 | store t x v => simp only [execOp, ho] at h1; exact absurd h1 u_ne
 | move x => simp [execOp, ho] at h1
 | assign x => simp [execOp, ho] at h1
 | pick c x y =>
   simp only [execOp, ho, Sem.run_bind] at h1
   cases hs : (asBool (a.eval c)).run P w with
   | ok v w2 => rw [hs] at h1; simp at h1
   | halt x w2 => rw [hs] at h1; simp at h1
 | nilCheck x =>
   rw [ho] at e
   have e' : nilS H (evS R x) = .enter f args H2 := e
   unfold nilS at e'
   split at e' <;> cases e'
 | alloc t => simp only [execOp, ho] at h1; exact absurd h1 v_ne
 | makeMap t x => simp only [execOp, ho] at h1; exact absurd h1 v_ne
 | lookup t x y c => simp only [execOp, ho] at h1; exact absurd h1 v_ne
 | mapUpdate t x y z => simp only [execOp, ho] at h1; exact absurd h1 u_ne
 | box t x => simp only [execOp, ho] at h1; exact absurd h1 v_ne
 | build t ps => simp only [execOp, ho] at h1; exact absurd h1 v_ne
 | buildSlice t n ps => simp only [execOp, ho] at h1; exact absurd h1 v_ne
 | load t x => simp only [execOp, ho] at h1; exact absurd h1 v_ne
 | binOp op t x y t2 => simp only [execOp, ho] at h1; exact absurd h1 v_ne
 | unOp op t x => simp only [execOp, ho] at h1; exact absurd h1 v_ne
 | convert s d x => simp only [execOp, ho] at h1; exact absurd h1 v_ne
 | makeSlice t l c => simp only [execOp, ho] at h1; exact absurd h1 v_ne
 | slice t x lo hi mx => simp only [execOp, ho] at h1; exact absurd h1 v_ne
 | fieldAddr t x k => simp only [execOp, ho] at h1; exact absurd h1 v_ne
 | field t x k => simp only [execOp, ho] at h1; exact absurd h1 v_ne
 | indexAddr t x ix => simp only [execOp, ho] at h1; exact absurd h1 v_ne
 | index t x ix => simp only [execOp, ho] at h1; exact absurd h1 v_ne
 | extract x k => simp only [execOp, ho] at h1; exact absurd h1 v_ne
 | _ => rw [ho] at e; simp only [opS] at e; cases e
theorem ran_does (hc : CallOk P call) (hw : WF H) (hr : HR A β H w) {R : Regs} {a : Act} (h : RR β R a.tmps) (o : Oper) (hA : ∀ i, (rddOf H R H.ban o.op).has i = true → memN H.ban i = false → A i) {v : Value} {H' : Hp} (hran : Ran call (opS P R H o.type o.op) v H') (K : Act → World → Prop) (Q : Exit → Act → World → Prop)
  (hK : ∀ β' v' w', St β H w β' H' w' → VR β' v v' → (HR A β' H' w' ∨ HR (Ab H.ban) β' H' w') → WF H' → K (a.put o.dst v') w') : o.wp P a w K Q := by
 have hdo := op_does (P := P) hw hr h o hA
 unfold Oper.wp
 rcases hran with e | ⟨e, rfl⟩ | ⟨f, args, H2, e, e2⟩
 · rw [e] at hdo
   obtain ⟨β', v', w', h1, h2, h3, h4, h5⟩ := hdo
   rw [h1, Oper.upon_value]
   exact hK β' v' w' h2 h3 (.inl h4) h5
 · rw [e] at hdo
   obtain ⟨w', h1, h2, h4, h5⟩ := hdo
   rw [h1, Oper.upon_skip]
   exact hK β undef w' h2 (VR.undef β) (.inl h4) h5
 · rw [e] at hdo
   obtain ⟨rfl, args', h1, h2⟩ := hdo
   have hcall : rddOf H2 R H2.ban o.op = .but H2.ban := enter_but o e h1 H2.ban
   rw [h1, Oper.upon_enter]
   have hr' : HR (Ab H2.ban) β H2 w := ⟨hr.dom, fun b k q hb hq hl ha => hr.row b k q hb hq hl (hA _ (by rw [hcall]; show (!(memN H2.ban q.grp)) = true; rw [show memN H2.ban q.grp = false from ha]; rfl) ha), hr.share, hr.base, hr.fix, hr.apart⟩
   refine (hc f args H2 v H' e2 β w args' hw hr' h2).mono ?_
   rintro e1 w1 ⟨β', v', rfl, h3, h4, h5, h6⟩
   exact hK β' v' w1 h4 h3 (.inr h6) h5
theorem ran_some (hc : CallOk P call) (hw : WF H) (hr : HR (Ab H.ban) β H w) {R : Regs} {a : Act} (h : RR β R a.tmps) (o : Oper) {v : Value} {H' : Hp} (hran : Ran call (opS P R H o.type o.op) v H') :
  ∃ β' v' w', St β H w β' H' w' ∧ VR β' v v' ∧ HR (Ab H.ban) β' H' w' ∧ WF H' := by
 have hdo := op_does (P := P) hw hr h o (fun i _ hi => hi)
 rcases hran with e | ⟨e, rfl⟩ | ⟨f, args, H2, e, e2⟩
 · rw [e] at hdo
   obtain ⟨β', v', w', h1, h2, h3, h4, h5⟩ := hdo
   exact ⟨β', v', w', h2, h3, h4, h5⟩
 · rw [e] at hdo
   obtain ⟨w', h1, h2, h4, h5⟩ := hdo
   exact ⟨β, undef, w', h2, VR.undef β, h4, h5⟩
 · rw [e] at hdo
   obtain ⟨rfl, args', h1, h2⟩ := hdo
   obtain ⟨e1, w1, fr, ⟨β', v', _, h3, h4, h5, h6⟩, _⟩ := hc f args H2 v H' e2 β w args' hw hr h2 []
   exact ⟨β', v', w1, h4, h3, h6, h5⟩
end
end
section
open Go.RowKit
variable {bs : Inhabited Base}
def Known (β0 : Bij) (n0 : Nat) (b : Nat) : Prop := (∃ k, β0 b = some k) ∨ n0 ≤ b
structure Facts (L : List Oper) (R0 : Regs) (β0 : Bij) (Rs : Nat → Regs) (Hs : Nat → Hp) (V : Nat → Value) (H1 : Nat → Hp) (ex : Nat → Prop) : Prop where
 wf : ∀ j, j ≤ L.length → WF (Hs j)
 ban : ∀ j, j ≤ L.length → (Hs j).ban = (Hs 0).ban
 old : ∀ j, j ≤ L.length → (Hs j).old = (Hs 0).old
 regs : ∀ j, j ≤ L.length → ∀ t, VB (Hs j).next (getR (Rs j) t)
 row : ∀ j, j ≤ L.length → ∀ b q, (Hs j).tr.get b = some q → Known β0 (Hs 0).next b → (Hs j).since q ≤ b → memN (Hs 0).ban q.grp = false → ∀ x, x ∈ q.cells → VB (Hs j).next x
 next : ∀ j, j < L.length → (Hs j).next ≤ (Hs (j + 1)).next
 same : ∀ j, j < L.length → ∀ b q, (Hs j).tr.get b = some q → ∃ q', (Hs (j + 1)).tr.get b = some q' ∧ q'.size = q.size ∧ q'.grp = q.grp
 keep : ∀ j, j < L.length → ∀ b q, (Hs j).tr.get b = some q → (ex j → q.grp ∉ (H1 j).wrote) → (Hs (j + 1)).tr.get b = some q ∧ (Hs (j + 1)).since q = (Hs j).since q
 wr : ∀ j, j < L.length → ex j → ∀ g, g ∈ (H1 j).wrote → g < (Hs j).next ∧ memN (banAt L R0 (Hs j) j) g = false
 vb : ∀ j, j < L.length → VB (Hs (j + 1)).next (V j)
 wrote : ∀ j, j < L.length → ex j → ∀ g, g ∈ (H1 j).wrote → g < (Hs 0).old → g ∈ (Hs (j + 1)).wrote
 more : ∀ j, j < L.length → ∀ g, g ∈ (Hs j).wrote → g ∈ (Hs (j + 1)).wrote
 came : ∀ j, j < L.length → ∀ g, g ∈ (Hs (j + 1)).wrote → g ∈ (Hs j).wrote ∨ (ex j ∧ g ∈ (H1 j).wrote ∧ g < (Hs 0).old)
section
variable {P : Program} {call : FuncId → List Value → Hp → Ret} {L : List Oper} {R0 : Regs} {N : Nat} {β0 : Bij} {a0 : Act} {w0 : World}
variable {Rs : Nat → Regs} {Hs : Nat → Hp} {V : Nat → Value} {H1 : Nat → Hp} {ex : Nat → Prop} {rd : Nat → Rdd}
theorem facts (hc : CallOk P call) (T : Trace P call L R0 Rs Hs V H1 ex rd) (hok : opsOk N L = true) (hs : S N β0 (Rs 0) (Hs 0) a0 w0) : Facts L R0 β0 Rs Hs V H1 ex := by
 have hdst : ∀ (l : List Oper), opsOk N l = true → ∀ (j : Nat) (o : Oper), l[j]? = some o → dstOk N o.dst = true := by
  intro l
  induction l with
  | nil => intro _ j o h; simp at h
  | cons x l ih =>
    intro h j o ho
    have h' : cond (dstOk N x.dst) (opsOk N l) false = true := h
    cases hx : dstOk N x.dst with
    | false => rw [hx] at h'; cases h'
    | true =>
      rw [hx] at h'
      cases j with
      | zero => simp at ho; subst ho; exact hx
      | succ j => exact ih h' j o (by simpa using ho)
 have step : ∀ j, j < L.length → ∀ β a w, S N β (Rs j) (Hs j) a w → ∃ β1 a1 w1, S N β1 (Rs (j + 1)) (Hs (j + 1)) a1 w1 ∧ (∀ b k, β b = some k → β1 b = some k) ∧ (∀ b, (Hs j).next ≤ b → b < (Hs (j + 1)).next → ∃ k, β1 b = some k) ∧
   (Hs j).next ≤ (Hs (j + 1)).next ∧ (Hs (j + 1)).ban = (Hs j).ban ∧ (Hs (j + 1)).old = (Hs j).old ∧
   (∀ b q, (Hs j).tr.get b = some q → ∃ q', (Hs (j + 1)).tr.get b = some q' ∧ q'.size = q.size ∧ q'.grp = q.grp) ∧
   (∀ b q, (Hs j).tr.get b = some q → (ex j → q.grp ∉ (H1 j).wrote) → (Hs (j + 1)).tr.get b = some q ∧ (Hs (j + 1)).since q = (Hs j).since q) ∧
   (ex j → ∀ g, g ∈ (H1 j).wrote → g < (Hs j).next ∧ memN (banAt L R0 (Hs j) j) g = false) ∧ VB (Hs (j + 1)).next (V j) ∧
   (ex j → ∀ g, g ∈ (H1 j).wrote → g < (Hs j).old → g ∈ (Hs (j + 1)).wrote) ∧ (∀ g, g ∈ (Hs j).wrote → g ∈ (Hs (j + 1)).wrote) ∧ (∀ g, g ∈ (Hs (j + 1)).wrote → g ∈ (Hs j).wrote ∨ (ex j ∧ g ∈ (H1 j).wrote ∧ g < (Hs j).old)) := by
  intro j hj β a w hs
  have ho := List.getElem?_eq_getElem hj
  generalize L[j] = o at ho
  have hd := hdst L hok j o ho
  by_cases hex : ex j
  · obtain ⟨_, _, hran, hR, hH⟩ := T.exec j o ho hex
    have hw1 := enter_WF hs.wf (banAt L R0 (Hs j) j)
    have hr1 : HR (Ab (enterD (banAt L R0 (Hs j) j) (Hs j)).ban) β (enterD (banAt L R0 (Hs j) j) (Hs j)) w := enter_HR hs.hr _ (fun g hg => ban_sub (L := L) (R0 := R0) (j := j) hg)
    obtain ⟨β1, v', w1, h1, h2, h3, h4⟩ := ran_some hc hw1 hr1 hs.rr o hran
    obtain ⟨h5, h6⟩ := leave_ok (L := L) (R0 := R0) (j := j) hs.wf hs.hr h1 h3 h4
    have h7 := leave_WF hs.wf h4 h1.next
    rw [hR, hH]
    refine ⟨β1, a.put o.dst v', w1, hs.put h6 h7 h5 h2 o.dst hd, h6.ext, h6.full, h6.next, rfl, rfl, h6.same, ?_, ?_, ?_, ?_, h6.wrote, ?_⟩
    · intro b q hq hnw
      have hg : q.grp < (Hs j).next := by
       have e1 := hs.wf.grp b q hq
       have e2 := hs.wf.pos hq
       omega
      exact h1.keep b q hq hg (hnw hex)
    · intro _ g hg
      rcases h1.wdom g hg with h | ⟨h8, h9, _⟩
      · cases h
      · exact ⟨h8, h9⟩
    · exact ⟨β1, v', fun b k hb => (h3.dom b k hb).1, h2⟩
    · intro _ g hg hlt
      exact (mem_joinW _ _ _ _).2 (.inr ⟨hg, hlt⟩)
    · intro g hg
      rcases (mem_joinW _ _ _ _).1 hg with h | ⟨h, h'⟩
      · exact .inl h
      · exact .inr ⟨hex, h, h'⟩
  · obtain ⟨_, hV, hR, hH⟩ := T.skip j o ho hex
    rw [hR, hH, hV]
    refine ⟨β, a.put o.dst undef, w, hs.put (St.refl _ _ _) hs.wf hs.hr (VR.undef β) o.dst hd, fun b k h => h, fun b h1 h2 => absurd h2 (by omega), Nat.le_refl _, rfl, rfl, fun b q h => ⟨q, h, rfl, rfl⟩, fun b q h _ => ⟨h, rfl⟩, fun h => absurd h hex, ?_, fun h => absurd h hex, fun g h => h, fun g h => .inl h⟩
    exact ⟨β, undef, fun b k hb => (hs.hr.dom b k hb).1, VR.undef β⟩
 have run : ∀ j, j ≤ L.length → ∃ β a w, S N β (Rs j) (Hs j) a w ∧ (Hs j).ban = (Hs 0).ban ∧ (Hs j).old = (Hs 0).old ∧ (Hs 0).next ≤ (Hs j).next ∧ ∀ b, Known β0 (Hs 0).next b → b < (Hs j).next → ∃ k, β b = some k := by
  intro j
  induction j with
  | zero =>
    intro _
    refine ⟨β0, a0, w0, hs, rfl, rfl, Nat.le_refl _, fun b hb hlt => ?_⟩
    rcases hb with hb | hb
    · exact hb
    · omega
  | succ j ih =>
    intro hj
    obtain ⟨β, a, w, h1, h2, h3, h3', h4⟩ := ih (by omega)
    obtain ⟨β1, a1, w1, h5, h6, h7, h8, h9, h10, _⟩ := step j (by omega) β a w h1
    refine ⟨β1, a1, w1, h5, h9.trans h2, h10.trans h3, Nat.le_trans h3' h8, fun b hb hlt => ?_⟩
    rcases Nat.lt_or_ge b (Hs j).next with h | h
    · obtain ⟨k, hk⟩ := h4 b hb h
      exact ⟨k, h6 b k hk⟩
    · exact h7 b h hlt
 have pick : ∀ j, j < L.length → ∃ β a w, S N β (Rs j) (Hs j) a w := fun j hj => let ⟨β, a, w, h, _⟩ := run j (by omega); ⟨β, a, w, h⟩
 refine ⟨fun j hj => ?_, fun j hj => ?_, fun j hj => ?_, fun j hj t => ?_, fun j hj b q hq hk hl hb x hx => ?_, fun j hj => ?_, fun j hj => ?_, fun j hj => ?_, fun j hj => ?_, fun j hj => ?_, fun j hj hx g hg hlt => ?_, fun j hj => ?_, fun j hj g hg => ?_⟩
 · obtain ⟨β, a, w, h, _⟩ := run j hj; exact h.wf
 · obtain ⟨β, a, w, _, h, _⟩ := run j hj; exact h
 · obtain ⟨β, a, w, _, _, h, _⟩ := run j hj; exact h
 · obtain ⟨β, a, w, h, _⟩ := run j hj; exact ⟨β, _, fun b k hb => (h.hr.dom b k hb).1, h.rr t⟩
 · obtain ⟨β, a, w, h, h1, _, _, h2⟩ := run j hj
   obtain ⟨k, hbk⟩ := h2 b hk (h.wf.pos hq).2
   obtain ⟨cs, _, _, h3⟩ := h.hr.row b k q hbk hq hl (by show memN (Hs j).ban q.grp = false; rw [h1]; exact hb)
   obtain ⟨i, hi⟩ := List.getElem?_of_mem hx
   obtain ⟨y, _, hv⟩ := h3 i x hi
   exact ⟨β, y, fun b k hb => (h.hr.dom b k hb).1, hv⟩
 · obtain ⟨β, a, w, h⟩ := pick j hj; obtain ⟨_, _, _, _, _, _, h1, _⟩ := step j hj β a w h; exact h1
 · obtain ⟨β, a, w, h⟩ := pick j hj; obtain ⟨_, _, _, _, _, _, _, _, _, h1, _⟩ := step j hj β a w h; exact h1
 · obtain ⟨β, a, w, h⟩ := pick j hj; obtain ⟨_, _, _, _, _, _, _, _, _, _, h1, _⟩ := step j hj β a w h; exact h1
 · obtain ⟨β, a, w, h⟩ := pick j hj; obtain ⟨_, _, _, _, _, _, _, _, _, _, _, h1, _⟩ := step j hj β a w h; exact h1
 · obtain ⟨β, a, w, h⟩ := pick j hj; obtain ⟨_, _, _, _, _, _, _, _, _, _, _, _, h1, _⟩ := step j hj β a w h; exact h1
 · obtain ⟨β, a, w, h⟩ := pick j hj
   obtain ⟨_, _, _, _, _, _, _, _, _, _, _, _, _, h1, _⟩ := step j hj β a w h
   obtain ⟨_, _, _, _, _, h2, _⟩ := run j (by omega)
   exact h1 hx g hg (by rw [h2]; exact hlt)
 · obtain ⟨β, a, w, h⟩ := pick j hj; obtain ⟨_, _, _, _, _, _, _, _, _, _, _, _, _, _, h1, _⟩ := step j hj β a w h; exact h1
 · obtain ⟨β, a, w, h⟩ := pick j hj
   obtain ⟨_, _, _, _, _, _, _, _, _, _, _, _, _, _, _, h1⟩ := step j hj β a w h
   obtain ⟨_, _, _, _, _, h2, _⟩ := run j (by omega)
   rw [← h2]; exact h1 g hg
end
end
section
open Go.RowKit
variable {bs : Inhabited Base}
section
variable {L : List Oper} {R0 : Regs} {β0 : Bij} {Rs : Nat → Regs} {Hs : Nat → Hp} {V : Nat → Value} {H1 : Nat → Hp} {ex : Nat → Prop} {rd : Nat → Rdd}
theorem Facts.next_mono (F : Facts L R0 β0 Rs Hs V H1 ex) {i j : Nat} (hij : i ≤ j) (hj : j ≤ L.length) : (Hs i).next ≤ (Hs j).next := by
 induction j with
 | zero =>
   obtain rfl : i = 0 := (by omega)
   exact Nat.le_refl _
 | succ j ih =>
   rcases Nat.lt_or_ge j i with h | h
   · obtain rfl : i = j + 1 := (by omega)
     exact Nat.le_refl _
   · exact Nat.le_trans (ih h (by omega)) (F.next j (by omega))
theorem Facts.same_mono (F : Facts L R0 β0 Rs Hs V H1 ex) {i j b : Nat} {q : Blk} (hij : i ≤ j) (hj : j ≤ L.length) (hq : (Hs i).tr.get b = some q) : ∃ q', (Hs j).tr.get b = some q' ∧ q'.size = q.size ∧ q'.grp = q.grp := by
 induction j with
 | zero =>
   obtain rfl : i = 0 := (by omega)
   exact ⟨q, hq, rfl, rfl⟩
 | succ j ih =>
   rcases Nat.lt_or_ge j i with h | h
   · obtain rfl : i = j + 1 := (by omega)
     exact ⟨q, hq, rfl, rfl⟩
   · obtain ⟨q1, h1, h2, h3⟩ := ih h (by omega)
     obtain ⟨q2, h4, h5, h6⟩ := F.same j (by omega) b q1 h1
     exact ⟨q2, h4, h5.trans h2, h6.trans h3⟩
theorem Facts.keep_mono (F : Facts L R0 β0 Rs Hs V H1 ex) {i j b : Nat} {q : Blk} (hij : i ≤ j) (hj : j ≤ L.length) (hq : (Hs i).tr.get b = some q) (hn : ∀ k, i ≤ k → k < j → ex k → q.grp ∉ (H1 k).wrote) : (Hs j).tr.get b = some q ∧ (Hs j).since q = (Hs i).since q := by
 induction j with
 | zero =>
   obtain rfl : i = 0 := (by omega)
   exact ⟨hq, rfl⟩
 | succ j ih =>
   rcases Nat.lt_or_ge j i with h | h
   · obtain rfl : i = j + 1 := (by omega)
     exact ⟨hq, rfl⟩
   · obtain ⟨h1, h2⟩ := ih h (by omega) (fun k h1 h2 => hn k h1 (by omega))
     obtain ⟨h3, h4⟩ := F.keep j (by omega) b q h1 (hn j h (by omega))
     exact ⟨h3, h4.trans h2⟩
theorem Facts.alike (F : Facts L R0 β0 Rs Hs V H1 ex) {i j b : Nat} {q q' : Blk} (hi : i ≤ L.length) (hj : j ≤ L.length) (hq : (Hs i).tr.get b = some q) (hq' : (Hs j).tr.get b = some q') : q.grp = q'.grp ∧ q.size = q'.size := by
 obtain ⟨q1, h1, h2, h3⟩ := F.same_mono hi (Nat.le_refl _) hq
 obtain ⟨q2, h4, h5, h6⟩ := F.same_mono hj (Nat.le_refl _) hq'
 rw [h1] at h4; cases h4
 exact ⟨h3.symm.trans h6, h2.symm.trans h5⟩
theorem Facts.rec_of (F : Facts L R0 β0 Rs Hs V H1 ex) {j b : Nat} {q : Blk} (hj : j ≤ L.length) (hb : b < (Hs j).next) (hq : (Hs L.length).tr.get b = some q) : ∃ q', (Hs j).tr.get b = some q' ∧ q'.grp = q.grp ∧ q'.size = q.size := by
 have h1 := (F.wf _ (Nat.le_refl _)).pos hq
 obtain ⟨q', h2⟩ := (F.wf j hj).all b h1.1 hb
 have := F.alike hj (Nat.le_refl _) h2 hq
 exact ⟨q', h2, this.1, this.2⟩
theorem Facts.wrote_mono (F : Facts L R0 β0 Rs Hs V H1 ex) {i j g : Nat} (hij : i ≤ j) (hj : j ≤ L.length) (hg : g ∈ (Hs i).wrote) : g ∈ (Hs j).wrote := by
 induction j with
 | zero =>
   obtain rfl : i = 0 := (by omega)
   exact hg
 | succ j ih =>
   rcases Nat.lt_or_ge j i with h | h
   · obtain rfl : i = j + 1 := (by omega)
     exact hg
   · exact F.more j (by omega) g (ih h (by omega))
theorem Facts.came_from (F : Facts L R0 β0 Rs Hs V H1 ex) {j g : Nat} (hj : j ≤ L.length) (hg : g ∈ (Hs j).wrote) : g ∈ (Hs 0).wrote ∨ ∃ i, i < j ∧ ex i ∧ g ∈ (H1 i).wrote ∧ g < (Hs 0).old := by
 induction j with
 | zero => exact .inl hg
 | succ j ih =>
   rcases F.came j (by omega) g hg with h | ⟨h1, h2, h3⟩
   · rcases ih (by omega) h with h | ⟨i, h1, h2⟩
     · exact .inl h
     · exact .inr ⟨i, by omega, h2⟩
   · exact .inr ⟨j, by omega, h1, h2, h3⟩
end
def New (Hs : Nat → Hp) (d b : Nat) : Prop := (Hs d).next ≤ b ∧ b < (Hs (d + 1)).next
def Touch (Hs H1 : Nat → Hp) (ex : Nat → Prop) (i g : Nat) : Prop := ex i ∧ (g ∈ (H1 i).wrote ∨ New Hs i g)
def Stage (n : Nat) (Hs H1 : Nat → Hp) (ex D : Nat → Prop) (g s : Nat) : Prop := ∀ i, i < n → Touch Hs H1 ex i g → (D i ↔ i < s)
def Rooted (Hs : Nat → Hp) (ex D : Nat → Prop) (g : Nat) : Prop := g < (Hs 0).next ∨ ∃ d, D d ∧ ex d ∧ New Hs d g
def Born (Hs H1 : Nat → Hp) (ex D : Nat → Prop) (b g : Nat) : Prop := b < (Hs 0).next ∨ ∃ d, D d ∧ ex d ∧ New Hs d b ∧ (g ∈ (H1 d).wrote ∨ (Hs d).next ≤ g)
theorem New.unique {L : List Oper} {R0 : Regs} {β0 : Bij} {Rs : Nat → Regs} {Hs : Nat → Hp} {V : Nat → Value} {H1 : Nat → Hp} {ex : Nat → Prop} (F : Facts L R0 β0 Rs Hs V H1 ex) {d d' b : Nat} (h : New Hs d b) (h' : New Hs d' b) (hd : d < L.length) (hd' : d' < L.length) : d = d' := by
 rcases Nat.lt_trichotomy d d' with e | e | e
 · have := F.next_mono (i := d + 1) (j := d') (by omega) (by omega)
   have h1 := h.2; have h2 := h'.1; omega
 · exact e
 · have := F.next_mono (i := d' + 1) (j := d) (by omega) (by omega)
   have h1 := h'.2; have h2 := h.1; omega
theorem New.old {L : List Oper} {R0 : Regs} {β0 : Bij} {Rs : Nat → Regs} {Hs : Nat → Hp} {V : Nat → Value} {H1 : Nat → Hp} {ex : Nat → Prop} (F : Facts L R0 β0 Rs Hs V H1 ex) {d b : Nat} (h : New Hs d b) (hd : d < L.length) : (Hs 0).next ≤ b :=
 Nat.le_trans (F.next_mono (Nat.zero_le d) (by omega)) h.1
structure Inv [Inhabited Base] (L : List Oper) (R0 : Regs) (N : Nat) (β0 : Bij) (w0 : World) (Hs : Nat → Hp) (V : Nat → Value) (H1 : Nat → Hp) (ex D : Nat → Prop) (β : Bij) (a : Act) (w : World) : Prop where
 cl : Closed L D
 lt : ∀ j, D j → j < L.length
 blk : ∀ b k, β b = some k → k.blk < w.heap.size
 rec_ : ∀ b k, β b = some k → ∃ q, (Hs L.length).tr.get b = some q ∧ q.size = k.size ∧ Born Hs H1 ex D b q.grp ∧ Rooted Hs ex D q.grp
 root : ∀ i, D i → ex i → ∀ g, g ∈ (H1 i).wrote → Rooted Hs ex D g
 share : ∀ b b' k k' q q', β b = some k → β b' = some k' → (Hs L.length).tr.get b = some q → (Hs L.length).tr.get b' = some q' → k.blk = k'.blk → q.grp = q'.grp
 row : ∀ b k s q, β b = some k → s ≤ L.length → (Hs s).tr.get b = some q → Stage L.length Hs H1 ex D q.grp s → (Hs s).since q ≤ b → memN (Hs 0).ban q.grp = false → RowV β q k w
 reg0 : ∀ t, (∀ (j : Nat) (o : Oper), D j → L[j]? = some o → o.dst ≠ some t) → VR β (getR R0 t) (a.tmps.getD t undef)
 reg1 : ∀ t (j : Nat) (o : Oper), D j → L[j]? = some o → o.dst = some t → (∀ (i : Nat) (o' : Oper), D i → L[i]? = some o' → o'.dst = some t → i ≤ j) → VR β (V j) (a.tmps.getD t undef)
 size : N ≤ a.tmps.size
 top : a.tmps.size ≤ 1000
 defers : a.defers = []
 os : w.os = w0.os
 tape : w.tape = w0.tape
 output : w.output = w0.output
 wsz : w0.heap.size ≤ w.heap.size
 ext : Ext β0 β
 block : ∀ r, r < w0.heap.size → (∀ b k q, β0 b = some k → (Hs 0).tr.get b = some q → k.blk = r → q.grp < (Hs 0).old ∧ q.grp ∉ (Hs L.length).wrote) → w.heap[r]? = w0.heap[r]?
 new : ∀ b k, β b = some k → β0 b = some k ∨ ((Hs 0).next ≤ b ∧ ∃ q', (Hs L.length).tr.get b = some q' ∧ (((Hs 0).next ≤ q'.grp ∧ w0.heap.size ≤ k.blk) ∨ ∃ b0 k0 q0, β0 b0 = some k0 ∧ (Hs 0).tr.get b0 = some q0 ∧ q0.grp = q'.grp ∧ ¬ (q0.grp < (Hs 0).old ∧ q0.grp ∉ (Hs L.length).wrote) ∧ (w0.heap.size ≤ k.blk ∨ k0.blk = k.blk)))
 wd : ∀ i, D i → ex i → ∀ g, g ∈ (H1 i).wrote → g < (Hs 0).old → memN (Hs 0).ban g = false ∧ ∃ b0 k0 q0, β0 b0 = some k0 ∧ (Hs 0).tr.get b0 = some q0 ∧ q0.grp = g
 full : ∀ d, D d → ∀ b, New Hs d b → ∃ k, β b = some k
 low : ∀ b k, baseAt b = some k → β b = some k ∧ b < (Hs 0).next
 fix : ∀ r o, baseRow r = some o → w.heap[r]? = some o
 apart : ∀ b k, β b = some k → baseRow k.blk = none
section
variable {P : Program} {call : FuncId → List Value → Hp → Ret} {L : List Oper} {R0 : Regs} {N : Nat} {β0 : Bij} {a0 : Act} {w0 : World}
variable {Rs : Nat → Regs} {Hs : Nat → Hp} {V : Nat → Value} {H1 : Nat → Hp} {ex : Nat → Prop} {rd : Nat → Rdd}
theorem noneIn_spec {r : Rdd} {g : Nat} : ∀ {l : List Nat}, noneIn l r = true → g ∈ l → r.has g = false
 | [], _, h => by cases h
 | x :: l, h, hg => by
   have h' : cond (r.has x) false (noneIn l r) = true := h
   cases hx : r.has x with
   | true => rw [hx] at h'; cases h'
   | false =>
     rw [hx] at h'
     rcases List.mem_cons.1 hg with rfl | hg
     · exact hx
     · exact noneIn_spec h' hg
theorem ordered (T : Trace P call L R0 Rs Hs V H1 ex rd) (hd : DrawOk L) {i j : Nat} (hi : i < L.length) (hj : j < L.length) (hij : i ≠ j) (hei : ex i) (hej : ex j) {g : Nat} (hg : g ∈ (H1 i).wrote) (hr : (rd j).has g = true) :
  (i < j ∧ bitS (maskS L j) i = true) ∨ (j < i ∧ bitS (maskS L i) j = true) := by
 have key : ∀ i j, i < j → j < L.length → ordB L i j = true → bitS (maskS L j) i = true := by
  intro i j h h2 ho
  rcases Bool.or_eq_true_iff.1 ho with h1 | h1
  · exact h1
  · have := mask_lt hd i _ (List.getElem?_eq_getElem (by omega)) j h1
    omega
 rcases Nat.lt_or_ge i j with h | h
 · left
   refine ⟨h, ?_⟩
   rcases T.apart i j h hj hei hej with h1 | ⟨h1, _⟩
   · exact key i j h hj h1
   · have := noneIn_spec h1 hg; rw [hr] at this; cases this
 · right
   refine ⟨by omega, ?_⟩
   rcases T.apart j i (by omega) hi hej hei with h1 | ⟨_, h1⟩
   · exact key j i (by omega) hi h1
   · have := noneIn_spec h1 hg; rw [hr] at this; cases this
end
end
end Go.Proofs.Ytkgbifbbpmdpgaa.Sh
