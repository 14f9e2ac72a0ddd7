/- A region that draws its order: its run in text order, step by step. Of no program. -/
import Derived.Test.YtmfjpdlegaimlaaGreatDoorSh17
namespace Go.Proofs.YtmfjpdlegaimlaaGreatDoor
open Go.RowKit
set_option linter.unusedVariables false
set_option linter.unusedSimpArgs false
variable {bs : Inhabited Base}

/-- what an operation came to -/
def Ran (call : FuncId → List Value → Hp → Ret) (n : Nx) (v : Value) (H' : Hp) : Prop :=
  n = .val v H' ∨ (n = .skip H' ∧ v = undefS) ∨ ∃ f args H2, n = .enter f args H2 ∧ call f args H2 = .ok v H'
noncomputable def banAt (L : List Oper) (R0 : Regs) (H : Hp) (j : Nat) : List Nat := bansS L H R0 j H.ban L 0
noncomputable def rdAt (L : List Oper) (R0 R : Regs) (H : Hp) (j : Nat) (o : Oper) : Rdd := rddOf H R (banAt L R0 H j) o.op
/-- a run in text order -/
structure Trace (P : Program) (call : FuncId → List Value → Hp → Ret) (L : List Oper) (R0 : Regs) (Rs : Nat → Regs) (Hs : Nat → Hp) (V : Nat → Value) (H1 : Nat → Hp) (ex : Nat → Prop) (rd : Nat → Rdd) : Prop where
  skip : ∀ (j : Nat) (o : Oper), L[j]? = some o → ¬ ex j → wantedS L (Rs j) o.guard = some false ∧ V j = undefS ∧ Rs (j + 1) = putR (Rs j) undefS o.dst ∧ Hs (j + 1) = Hs j
  exec : ∀ (j : Nat) (o : Oper), L[j]? = some o → ex j → wantedS L (Rs j) o.guard = some true ∧ rd j = rdAt L R0 (Rs j) (Hs j) j o ∧ Ran call (opS P (Rs j) (enterD (banAt L R0 (Hs j) j) (Hs j)) o.type o.op) (V j) (H1 j) ∧
    Rs (j + 1) = putR (Rs j) (V j) o.dst ∧ Hs (j + 1) = leaveD (Hs j) (H1 j)
  apart : ∀ (i j : Nat), i < j → j < L.length → ex i → ex j → ordB L i j = true ∨ (noneIn (H1 i).wrote (rd j) = true ∧ noneIn (H1 j).wrote (rd i) = true)

theorem apart_mem {L : List Oper} {j : Nat} {r : Rdd} {wr : List Nat} : ∀ {sn : List Seen}, apartS L j r wr sn = true → ∀ s, s ∈ sn → ordB L s.at_ j = true ∨ (noneIn s.wr r = true ∧ noneIn wr s.rd = true)
  | [], _, s, hs => by cases hs
  | x :: sn, h, s, hs => by
    have h' : cond (ordB L x.at_ j || (noneIn x.wr r && noneIn wr x.rd)) (apartS L j r wr sn) false = true := h
    cases hx : (ordB L x.at_ j || (noneIn x.wr r && noneIn wr x.rd)) with
    | false => rw [hx] at h'; cases h'
    | true =>
      rw [hx] at h'
      rcases List.mem_cons.1 hs with rfl | hs
      · rcases Bool.or_eq_true_iff.1 hx with h1 | h1
        · exact .inl h1
        · exact .inr (and_split h1)
      · exact apart_mem h' s hs

section
variable {P : Program} {call : FuncId → List Value → Hp → Ret} {L : List Oper} {R0 : Regs}
theorem trace_of : ∀ (l : List Oper) (k : Nat) (sn : List Seen) (R : Regs) (H : Hp) (e : Ex) (R' : Regs) (H' : Hp), L.drop k = l → drawS P call L R0 l k sn R H = .ok e R' H' →
    e = .normal ∧ ∃ (Rs : Nat → Regs) (Hs : Nat → Hp) (V : Nat → Value) (H1 : Nat → Hp) (ex : Nat → Prop) (rd : Nat → Rdd), Rs k = R ∧ Hs k = H ∧ Rs (k + l.length) = R' ∧ Hs (k + l.length) = H' ∧
      (∀ (j : Nat) (o : Oper), k ≤ j → L[j]? = some o → ¬ ex j → wantedS L (Rs j) o.guard = some false ∧ V j = undefS ∧ Rs (j + 1) = putR (Rs j) undefS o.dst ∧ Hs (j + 1) = Hs j) ∧
      (∀ (j : Nat) (o : Oper), k ≤ j → L[j]? = some o → ex j → wantedS L (Rs j) o.guard = some true ∧ rd j = rdAt L R0 (Rs j) (Hs j) j o ∧ Ran call (opS P (Rs j) (enterD (banAt L R0 (Hs j) j) (Hs j)) o.type o.op) (V j) (H1 j) ∧
        Rs (j + 1) = putR (Rs j) (V j) o.dst ∧ Hs (j + 1) = leaveD (Hs j) (H1 j)) ∧
      (∀ (i j : Nat), k ≤ i → i < j → j < k + l.length → ex i → ex j → ordB L i j = true ∨ (noneIn (H1 i).wrote (rd j) = true ∧ noneIn (H1 j).wrote (rd i) = true)) ∧
      (∀ (j : Nat), k ≤ j → j < k + l.length → ex j → ∀ s, s ∈ sn → ordB L s.at_ j = true ∨ (noneIn s.wr (rd j) = true ∧ noneIn (H1 j).wrote s.rd = true)) := by
  intro l
  induction l with
  | nil =>
    intro k sn R H e R' H' hk hrun
    cases hrun
    have hlen : L.length ≤ k := by
      have := congrArg List.length hk
      simp at this; omega
    refine ⟨rfl, fun _ => R, fun _ => H, fun _ => undefS, fun _ => H, fun _ => False, fun _ => .none, rfl, rfl, rfl, rfl, ?_, ?_, ?_, ?_⟩
    · intro j o hj ho; have := (List.getElem?_eq_some_iff.1 ho).1; omega
    · intro j o hj ho; have := (List.getElem?_eq_some_iff.1 ho).1; omega
    · intro i j _ _ h; simp at h; omega
    · intro j hj h; simp at h; omega
  | cons o l ih =>
    intro k sn R H e R' H' hk hrun
    have hk' : L.drop (k + 1) = l := by
      have := congrArg List.tail hk
      rw [List.tail_drop] at this; exact this
    have ho : L[k]? = some o := by
      have := congrArg List.head? hk
      rw [List.head?_drop] at this
      simpa using this
    have hrun' : wantS (nextS call (fun v H' => drawNext L (rddOf H R (bansS L H R0 k H.ban L 0) o.op) o k sn H (fun sn v H => drawS P call L R0 l (Nat.succ k) sn (putR R v o.dst) H) v H') o.pos (opS P R (enterD (bansS L H R0 k H.ban L 0) H) o.type o.op))
        (drawS P call L R0 l (Nat.succ k) sn (putR R undefS o.dst) H) (wantedS L R o.guard) = .ok e R' H' := hrun
    cases hw : wantedS L R o.guard with
    | none => rw [hw] at hrun'; cases hrun'
    | some t =>
      rw [hw] at hrun'
      cases t with
      | false =>
        obtain ⟨he, Rs, Hs, V, H1, ex, rd, a1, a2, a3, a4, a5, a6, a7, a8⟩ := ih (k + 1) sn _ H e R' H' hk' hrun'
        refine ⟨he, fun i => if i = k then R else Rs i, fun i => if i = k then H else Hs i, fun i => if i = k then undefS else V i, H1, fun i => i ≠ k ∧ ex i, rd, by simp, by simp, ?_, ?_, ?_, ?_, ?_, ?_⟩
        · simp only [List.length_cons]; rw [if_neg (by omega)]; rw [show k + (l.length + 1) = k + 1 + l.length by omega]; exact a3
        · simp only [List.length_cons]; rw [if_neg (by omega)]; rw [show k + (l.length + 1) = k + 1 + l.length by omega]; exact a4
        · intro j x hj hx hex
          by_cases e1 : j = k
          · subst e1
            rw [ho] at hx; cases hx
            simp only [if_pos, if_neg (show ¬ j + 1 = j by omega)]
            exact ⟨hw, trivial, a1, a2⟩
          · simp only [if_neg e1, if_neg (show ¬ j + 1 = k by omega)]
            exact a5 j x (by omega) hx (fun h => hex ⟨e1, h⟩)
        · intro j x hj hx hex
          simp only [if_neg hex.1, if_neg (show ¬ j + 1 = k by omega)]
          exact a6 j x (by have := hex.1; omega) hx hex.2
        · intro i j hi hij hj hei hej
          simp only [List.length_cons] at hj
          exact a7 i j (by have := hei.1; omega) hij (by omega) hei.2 hej.2
        · intro j hj hjl hej s hs
          simp only [List.length_cons] at hjl
          exact a8 j (by have := hej.1; omega) (by omega) hej.2 s hs
      | true =>
        have hgo : ∃ v H2, Ran call (opS P R (enterD (bansS L H R0 k H.ban L 0) H) o.type o.op) v H2 ∧ drawNext L (rddOf H R (bansS L H R0 k H.ban L 0) o.op) o k sn H (fun sn v H => drawS P call L R0 l (Nat.succ k) sn (putR R v o.dst) H) v H2 = .ok e R' H' := by
          have h2 : nextS call (fun v H' => drawNext L (rddOf H R (bansS L H R0 k H.ban L 0) o.op) o k sn H (fun sn v H => drawS P call L R0 l (Nat.succ k) sn (putR R v o.dst) H) v H') o.pos (opS P R (enterD (bansS L H R0 k H.ban L 0) H) o.type o.op) = .ok e R' H' := hrun'
          cases hop : opS P R (enterD (bansS L H R0 k H.ban L 0) H) o.type o.op with
          | val v H2 => rw [hop] at h2; exact ⟨v, H2, .inl rfl, h2⟩
          | skip H2 => rw [hop] at h2; exact ⟨undefS, H2, .inr (.inl ⟨rfl, rfl⟩), h2⟩
          | enter f args H3 =>
            rw [hop] at h2
            have h3 : (match call f args H3 with | .ok v H' => drawNext L (rddOf H R (bansS L H R0 k H.ban L 0) o.op) o k sn H (fun sn v H => drawS P call L R0 l (Nat.succ k) sn (putR R v o.dst) H) v H' | .bad why l => .bad why (o.pos :: l)) = .ok e R' H' := (nextS_enter ..).symm.trans h2
            cases hcl : call f args H3 with
            | bad n l => rw [hcl] at h3; cases h3
            | ok v H2 => rw [hcl] at h3; exact ⟨v, H2, .inr (.inr ⟨f, args, H3, rfl, hcl⟩), h3⟩
          | bad n => rw [hop] at h2; cases h2
        obtain ⟨v, H2, hran, hdn⟩ := hgo
        unfold drawNext at hdn
        obtain ⟨hap, hdn⟩ := (cond_split hdn).resolve_right (fun h => by cases h.2)
        obtain ⟨he, Rs, Hs, V, H1, ex, rd, a1, a2, a3, a4, a5, a6, a7, a8⟩ := ih (k + 1) _ _ _ e R' H' hk' hdn
        refine ⟨he, fun i => if i = k then R else Rs i, fun i => if i = k then H else Hs i, fun i => if i = k then v else V i, fun i => if i = k then H2 else H1 i, fun i => i = k ∨ ex i ∧ i ≠ k, fun i => if i = k then rddOf H R (bansS L H R0 k H.ban L 0) o.op else rd i, by simp, by simp, ?_, ?_, ?_, ?_, ?_, ?_⟩
        · simp only [List.length_cons]; rw [if_neg (by omega)]; rw [show k + (l.length + 1) = k + 1 + l.length by omega]; exact a3
        · simp only [List.length_cons]; rw [if_neg (by omega)]; rw [show k + (l.length + 1) = k + 1 + l.length by omega]; exact a4
        · intro j x hj hx hex
          have e1 : j ≠ k := fun e1 => hex (.inl e1)
          simp only [if_neg e1, if_neg (show ¬ j + 1 = k by omega)]
          exact a5 j x (by omega) hx (fun h => hex (.inr ⟨h, e1⟩))
        · intro j x hj hx hex
          by_cases e1 : j = k
          · subst e1
            rw [ho] at hx; cases hx
            simp only [if_pos, if_neg (show ¬ j + 1 = j by omega)]
            exact ⟨hw, rfl, hran, a1, a2⟩
          · simp only [if_neg e1, if_neg (show ¬ j + 1 = k by omega)]
            exact a6 j x (by omega) hx (hex.elim (fun h => absurd h e1) (fun h => h.1))
        · intro i j hi hij hj hei hej
          simp only [List.length_cons] at hj
          have ej : j ≠ k := by omega
          have hej' := hej.elim (fun h => absurd h ej) (fun h => h.1)
          by_cases ei : i = k
          · subst ei
            simp only [if_pos, if_neg ej]
            exact a8 j (by omega) (by omega) hej' ⟨i, rddOf H R (bansS L H R0 i H.ban L 0) o.op, H2.wrote⟩ (List.mem_cons_self ..)
          · simp only [if_neg ei, if_neg ej]
            exact a7 i j (by omega) hij (by omega) (hei.elim (fun h => absurd h ei) (fun h => h.1)) hej'
        · intro j hj hjl hej s hs
          simp only [List.length_cons] at hjl
          by_cases ej : j = k
          · subst ej
            simp only [if_pos]
            exact apart_mem hap s hs
          · simp only [if_neg ej]
            exact a8 j (by omega) (by omega) (hej.elim (fun h => absurd h ej) (fun h => h.1)) s (List.mem_cons_of_mem _ hs)
end
end Go.Proofs.YtmfjpdlegaimlaaGreatDoor
