/- The end of a function's run, told by the small machine: what stands ahead of it is walked. Of no program. -/
import Derived.Test.YtbampnmobbgbaaaDoorSh27
import Derived.Calls
namespace Go.Proofs.YtbampnmobbgbaaaDoor
open Go.RowKit
set_option linter.unusedVariables false
set_option linter.unusedSimpArgs false
variable {bs : Inhabited Base}
noncomputable section
/-- the rest of a function's code, from some slots on -/
def sufS (P : Program) (X : XF) (n : Nat) (fn : Func) (c : Code) (R : Regs) (H : Hp) : Ret := endS' P fn (codeS P X n c R H)
/-- statements passed by -/
def dropC (n : Nat) (c : Code) : Code :=
  Nat.rec (motive := fun _ => Code → Code) (fun c => c) (fun _ g c => match c with | .seq _ b => g b | c => c) n c
/-- some slots, nothing known of the others -/
def slotS (l : List (Nat × Value)) : Regs := List.rec (motive := fun _ => Regs) unkT (fun p _ T => T.set p.2 (Nat.succ p.1)) l
end
section
variable {P : Program}
theorem slot_wide : ∀ l, Wide (slotS l)
  | [] => sel_wide (Tr.nil) []
  | p :: r => fun j hj => by
    show ((slotS r).set p.2 (Nat.succ p.1)).inb (j + 1) = true
    rw [Tr.inb_set]; exact slot_wide r j hj
theorem slot_RR {β : Bij} {tmps : Array Value} (hs : tmps.size ≤ 1000) : ∀ (l : List (Nat × Value)), (∀ p, p ∈ l → p.1 < 1000 ∧ VR β p.2 (tmps.getD p.1 undef)) → RR β (slotS l) tmps
  | [], _ => sel_RR (R := Tr.nil) hs [] (fun t h => by cases h)
  | p :: r, h => by
    intro t
    show VR β (getR ((slotS r).set p.2 (Nat.succ p.1)) t) _
    have hp := h p (List.mem_cons_self ..)
    rw [getR_set _ _ _ _ (slot_wide r p.1 hp.1)]
    by_cases e : t = p.1
    · subst e; rw [if_pos rfl]; exact hp.2
    · rw [if_neg e]; exact slot_RR hs r (fun q hq => h q (List.mem_cons_of_mem _ hq)) t
theorem suffix_fin {fn : Func} {v : Value} {H' : Hp} {N : Nat} {β : Bij} {H : Hp} {w : World} {e0 : Ex} {R1 : Regs} {H1 : Hp} (hrun : endS' P fn (.ok e0 R1 H1) = .ok v H')
    {e : Exit} {a : Act} {w' : World} (he : ExR e0 e) {β' : Bij} (hst : St β H w β' H1 w') (hs : S N β' R1 H1 a w') :
    bodyPost P fn (CallPost β H w v H') e a w' := by
  have fin : retL H1 (ressS P R1 H1 fn.results.toList) = .ok v H' → a.defers = [] ∧ ∃ u, (results fn a.tmps).run P w' = .ok u w' ∧ CallPost β H w v H' (.returned u) w' := by
    intro hret
    obtain ⟨rfl, u, hu, hrunr⟩ := results_run (P := P) hs.hr (fun b hb => hb) hs.rr fn hret
    exact ⟨hs.defers, u, hrunr, β', u, rfl, hu, hst, hs.wf, by rw [← hst.ban]; exact hs.hr⟩
  cases e0 with
  | normal => cases e <;> first | exact he.elim | exact fin hrun
  | ret => cases e <;> first | exact he.elim | exact fin hrun
  | exit i => cases hrun
theorem suffix_ok {X : XF} (hX : XOk P X) (hreg : ∀ call, CallOk P call → RegionOk P call) {fn : Func} {n : Nat} {c1 c2 : Code} {R : Regs} {H : Hp} {v : Value} {H' : Hp}
    (hrun : sufS P X (n + 1) fn (.seq c1 c2) R H = .ok v H') (hok : codeOk fn.ntmps (.seq c1 c2) = true) {β : Bij} {a : Act} {w : World} (hs : S fn.ntmps β R H a w)
    {Q : Exit → Act → World → Prop} {K : Act → World → Prop} (hk : ∀ a w, Code.wp P c2 Q a w → K a w)
    (hQ : ∀ e a' w', bodyPost P fn (CallPost β H w v H') e a' w' → Q e a' w') : Code.wp P c1 (Exit.then K Q) a w := by
  obtain ⟨h1, h2⟩ := codeOk_seq hok
  have hcode := code_sound hX hreg n
  have hrun' : endS' P fn (seqS (codeS P X n c2) (codeS P X n c1 R H)) = .ok v H' := hrun
  cases hx : codeS P X n c1 R H with
  | bad k l => rw [hx] at hrun'; cases hrun'
  | ok e1 R1 H1 =>
    rw [hx] at hrun'
    refine wp_mono (hcode fn.ntmps c1 R H e1 R1 H1 hx h1 β a w hs) ?_
    rintro e2 a2 w2 ⟨he, β2, h3, h4⟩
    cases e1 with
    | normal =>
      cases e2 <;> first | exact he.elim | skip
      have hrun2 : endS' P fn (codeS P X n c2 R1 H1) = .ok v H' := hrun'
      refine hk a2 w2 ?_
      cases hy : codeS P X n c2 R1 H1 with
      | bad k l => rw [hy] at hrun2; cases hrun2
      | ok e3 R3 H3 =>
        rw [hy] at hrun2
        refine wp_mono (hcode fn.ntmps c2 R1 H1 e3 R3 H3 hy h2 β2 a2 w2 h4) ?_
        rintro e4 a4 w4 ⟨he4, β4, h5, h6⟩
        exact hQ e4 a4 w4 (suffix_fin hrun2 he4 (St.tr hs.hr h4.hr hs.wf h3 h5) h6)
    | exit i => cases hrun'
    | ret =>
      have hrun2 : endS' P fn (.ok .ret R1 H1) = .ok v H' := hrun'
      cases e2 <;> first | exact he.elim | skip
      exact hQ _ a2 w2 (suffix_fin hrun2 (e := .ret) trivial h3 h4)
end
end Go.Proofs.YtbampnmobbgbaaaDoor
