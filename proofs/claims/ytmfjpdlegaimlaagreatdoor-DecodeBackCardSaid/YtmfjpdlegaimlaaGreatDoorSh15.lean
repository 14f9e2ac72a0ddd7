/- The small machine: what it tells, the program tells. Of no program. -/
import Derived.Test.YtmfjpdlegaimlaaGreatDoorSh14
namespace Go.Proofs.YtmfjpdlegaimlaaGreatDoor
open Go.RowKit
set_option linter.unusedVariables false
set_option linter.unusedSimpArgs false
variable {bs : Inhabited Base}

section
variable {P : Program}

theorem call_sound {code : Code → Regs → Hp → Out} (hcode : CodeSnd P code) : CallOk P (fun f args H => runF P code args H P.funcs[f]?) := by
  intro f args H v H' hrun β w args' hw hr hl
  have hrun' : runF P code args H P.funcs[f]? = .ok v H' := hrun
  unfold runF at hrun'
  split at hrun'
  · rename_i fn hfn
    split at hrun'
    · rename_i c hbody
      cases hcc : (Nat.ble fn.ntmps 1000 && (Nat.ble (lenL args) fn.ntmps && codeOk fn.ntmps c)) with
      | false => rw [hcc] at hrun'; cases hrun'
      | true =>
        rw [hcc] at hrun'
        obtain ⟨h1, h2⟩ := and_split hcc
        obtain ⟨h2, h3⟩ := and_split h2
        have h1 := of_ble h1
        have h2 := of_ble h2
        rw [lenL_eq] at h2
        have hrun2 : endS' P fn (code c (regsOf args 0 (Tr.blank _ regDepth)) H) = .ok v H' := hrun'
        have hlen : args'.size = args.length := by rw [hl.1]; simp
        have hblank : RR β (Tr.blank Value regDepth) (Array.replicate fn.ntmps undef) := by
          intro t
          have e1 : getR (Tr.blank Value regDepth) t = undefS := by unfold getR; rw [Tr.get_blank]
          have e2 : (Array.replicate fn.ntmps undef).getD t undef = undef := by
            rw [Array.getD_eq_getD_getElem?, Array.getElem?_replicate]; split <;> rfl
          rw [e1, e2]; exact VR.undef β
        have hwide : Wide (Tr.blank Value regDepth) := fun t ht => Tr.inb_blank 10 (t + 1) (by omega) (by omega)
        obtain ⟨h4, h5⟩ := regsOf_RR hl 0 _ _ hblank hwide (by simp; omega) (by omega)
        have etmps : ((Array.replicate fn.ntmps undef).toList.take 0 ++ (args'.toList ++ (Array.replicate fn.ntmps undef).toList.drop (0 + args'.toList.length))).toArray = args' ++ Array.replicate (fn.ntmps - args'.size) undef := by
          apply Array.toList_inj.1
          simp [List.drop_replicate]
        rw [etmps] at h4
        have hs : S fn.ntmps β (regsOf args 0 (Tr.blank _ regDepth)) H { tmps := args' ++ Array.replicate (fn.ntmps - args'.size) undef, defers := [] } w :=
          ⟨hw, hr, h4, h5, h1, by simp; omega, by simp; omega, rfl⟩
        refine calls_of_wp hfn hbody ?_
        cases hres : code c (regsOf args 0 (Tr.blank _ regDepth)) H with
        | bad n l => rw [hres] at hrun2; cases hrun2
        | ok e R' H1 =>
          rw [hres] at hrun2
          refine wp_mono (hcode fn.ntmps c _ _ _ _ _ hres h3 β _ w hs) ?_
          rintro e2 a2 w2 ⟨he, β', hst, hs'⟩
          have fin : retL H1 (ressS P R' H1 fn.results.toList) = .ok v H' → a2.defers = [] ∧ ∃ u, (results fn a2.tmps).run P w2 = .ok u w2 ∧ CallPost β H w v H' (.returned u) w2 := by
            intro hret
            obtain ⟨rfl, u, hu, hrunr⟩ := results_run (P := P) hs'.hr (fun b hb => hb) hs'.rr fn hret
            exact ⟨hs'.defers, u, hrunr, β', u, rfl, hu, hst, hs'.wf, by rw [← hst.ban]; exact hs'.hr⟩
          cases e with
          | normal => cases e2 <;> first | exact he.elim | exact fin hrun2
          | ret => cases e2 <;> first | exact he.elim | exact fin hrun2
          | exit i => cases hrun2
    · cases hrun'
  · cases hrun'

/-- what is told of functions that are not run holds of them -/
def XOk [Inhabited Base] (P : Program) (X : XF) : Prop :=
  ∀ f k, X f = some k → ∀ args H v H', k args H = .ok v H' → ∀ β w (args' : Array Value), WF H → HR (Ab H.ban) β H w → VL β args args'.toList → Calls P f args' w (CallPost β H w v H')
theorem XOk.none [Inhabited Base] : XOk P XF.none := fun f k h => by cases h
theorem enterX_ok {X : XF} (hX : XOk P X) {g : FuncId → List Value → Hp → Ret} (hg : CallOk P g) : CallOk P (enterX X g) := by
  intro f args H v H' h
  unfold enterX at h
  cases hx : X f with
  | none => rw [hx] at h; exact hg f args H v H' h
  | some k => rw [hx] at h; exact hX f k hx args H v H' h

theorem code_step {X : XF} (hX : XOk P X) (hreg : ∀ call, CallOk P call → RegionOk P call) (n : Nat) (hall : ∀ m, m ≤ n → CodeSnd P (codeS P X m)) : CodeSnd P (codeS P X (n + 1)) := by
  intro N c R H e R' H' hrun hok β a w hs
  have hc := hall n (Nat.le_refl n)
  have hcall := enterX_ok hX (call_sound hc)
  cases c with
  | skip => cases hrun; exact wp_skip ⟨trivial, β, St.refl _ _ _, hs⟩
  | region id ops draw => exact hreg _ hcall N id ops R H e R' H' draw hrun hok β a w hs
  | seq x y =>
    obtain ⟨h1, h2⟩ := codeOk_seq hok
    have hrun' : seqS (codeS P X n y) (codeS P X n x R H) = .ok e R' H' := hrun
    cases hx : codeS P X n x R H with
    | bad k l => rw [hx] at hrun'; cases hrun'
    | ok e1 R1 H1 =>
      rw [hx] at hrun'
      refine wp_seq (wp_mono (hc N x R H e1 R1 H1 hx h1 β a w hs) ?_)
      rintro e2 a2 w2 ⟨he, β2, h3, h4⟩
      cases e1 with
      | normal =>
        cases e2 <;> first | exact he.elim | skip
        exact wp_mono (hc N y R1 H1 e R' H' hrun' h2 β2 a2 w2 h4) (fun e3 a3 w3 hp => post_trans hs.hr h4.hr hs.wf h3 hp)
      | exit i =>
        have h9 : Out.ok (.exit i) R1 H1 = .ok e R' H' := hrun'
        cases h9
        cases e2 <;> first | exact he.elim | skip
        exact ⟨he, β2, h3, h4⟩
      | ret =>
        have h9 : Out.ok .ret R1 H1 = .ok e R' H' := hrun'
        cases h9
        cases e2 <;> first | exact he.elim | skip
        exact ⟨he, β2, h3, h4⟩
  | cond o x y =>
    obtain ⟨h1, h2⟩ := codeOk_cond hok
    have hrun' : condS (codeS P X n x R H) (codeS P X n y R H) (evS R o) = .ok e R' H' := hrun
    have ho := hs.rr.eval o
    generalize evS R o = v at hrun' ho
    unfold condS at hrun'
    split at hrun'
    · rename_i t
      refine wp_cond ho.bool ?_
      cases t with
      | true => exact hc N x R H e R' H' hrun' h1 β a w hs
      | false => exact hc N y R H e R' H' hrun' h2 β a w hs
    · cases hrun'
  | block id x =>
    have hrun' : blockS id (codeS P X n x R H) = .ok e R' H' := hrun
    cases hx : codeS P X n x R H with
    | bad k l => rw [hx] at hrun'; cases hrun'
    | ok e1 R1 H1 =>
      rw [hx] at hrun'
      refine wp_block (wp_mono (hc N x R H e1 R1 H1 hx hok β a w hs) ?_)
      rintro e2 a2 w2 ⟨he, β2, h3, h4⟩
      cases e1 with
      | normal =>
        have h9 : Out.ok .normal R1 H1 = .ok e R' H' := hrun'
        cases h9
        cases e2 <;> first | exact he.elim | skip
        exact ⟨trivial, β2, h3, h4⟩
      | ret =>
        have h9 : Out.ok .ret R1 H1 = .ok e R' H' := hrun'
        cases h9
        cases e2 <;> first | exact he.elim | skip
        exact ⟨trivial, β2, h3, h4⟩
      | exit i =>
        cases e2 <;> first | exact he.elim | skip
        rename_i j
        have hij : i = j := he
        subst hij
        have h9 : (cond (Nat.beq i id) (.ok .normal R1 H1) (.ok (.exit i) R1 H1) : Out) = .ok e R' H' := hrun'
        show if i = id then _ else _
        by_cases hid : i = id
        · rw [beq_t hid] at h9
          rw [if_pos hid]
          cases h9
          exact ⟨trivial, β2, h3, h4⟩
        · rw [beq_f hid] at h9
          rw [if_neg hid]
          cases h9
          exact ⟨rfl, β2, h3, h4⟩
  | loop x => exact loop_sound (n + 1) (fun m hm => hall m (by omega)) x hrun hok hs
  | exit id => cases hrun; exact wp_exit ⟨rfl, β, St.refl _ _ _, hs⟩
  | ret => cases hrun; exact wp_ret ⟨trivial, β, St.refl _ _ _, hs⟩
  | label l => cases hrun; exact wp_label ⟨trivial, β, St.refl _ _ _, hs⟩
  | scope x =>
    refine wp_scope_straight (wp_mono (hc N x R H e R' H' hrun hok β a w hs) ?_)
    rintro e2 a2 w2 ⟨he, h3⟩
    cases e2 <;> first | (cases e <;> exact he.elim) | exact ⟨he, h3⟩
  | rangeFunc f p x y => cases hrun
  | goto l => cases hrun
  | refuse why => cases hrun
theorem code_sound {X : XF} (hX : XOk P X) (hreg : ∀ call, CallOk P call → RegionOk P call) : ∀ n, CodeSnd P (codeS P X n) := by
  intro n
  induction n using Nat.strongRecOn with
  | ind n ih =>
    cases n with
    | zero => intro N c R H e R' H' hrun; cases hrun
    | succ n => exact code_step hX hreg n (fun m hm => ih m (by omega))

theorem none_WF : WF Hp.none := by
  refine ⟨Nat.zero_le 1, ⟨Nat.le_refl 1, by decide⟩, fun k h1 h2 => ⟨Tr.inb_blank 17 k h1 (by omega), Tr.inb_blank 17 k h1 (by omega)⟩, fun b _ => Tr.get_blank 17 b, fun b q h => ?_, fun g p h => ?_, fun b b' q q' h => ?_, fun b h1 h2 => ?_⟩
  · rw [show Hp.none.tr = Tr.blank Blk 17 from rfl, Tr.get_blank] at h; cases h
  · rw [show Hp.none.grp = Tr.blank _ 17 from rfl, Tr.get_blank] at h; cases h
  · rw [show Hp.none.tr = Tr.blank Blk 17 from rfl, Tr.get_blank] at h; cases h
  · have : b < 1 := h2
    omega
/-- a call whose run is told: without arguments that lead to memory -/
theorem run_from {X : XF} (hX : XOk P X) (hreg : ∀ call, CallOk P call → RegionOk P call) (n : Nat) (f : FuncId) (args : List Value) {v : Value} {H H' : Hp} (h : callX P X n f args H = .ok v H') {β : Bij} {w : World} {args' : Array Value}
    (hw : WF H) (hr : HR (Ab H.ban) β H w) (hl : VL β args args'.toList) : Calls P f args' w (CallPost β H w v H') :=
  call_sound (code_sound hX hreg n) f args H v H' h β w args' hw hr hl
theorem run_sound (hB : ∀ b, baseAt b = none) (hR : ∀ r, baseRow r = none) {X : XF} (hX : XOk P X) (hreg : ∀ call, CallOk P call → RegionOk P call) (n : Nat) (f : FuncId) (args : List Value) (hf : ∀ x ∈ args, flatV x = true) (v : Value) (H' : Hp) (hv : flatV v = true) (h : callX P X n f args Hp.none = .ok v H') (w : World) :
    Calls P f args.toArray w fun e w' => e = .returned v ∧ Below w.heap.size w w' := by
  have hc := call_sound (code_sound hX hreg n)
  have hr : HR (Ab Hp.none.ban) (fun _ => none) Hp.none w := ⟨fun b k h => (by cases h), fun b k q h => (by cases h), fun b b' k k' q q' h => (by cases h), fun b k h => (by rw [hB] at h; cases h), fun r o e => (by rw [hR] at e; cases e), fun b k h => (by cases h)⟩
  have hl : VL (fun _ => none) args args.toArray.toList := by
    refine ⟨by simp, fun i x y hx hy => ?_⟩
    have : x = y := by
      rw [show args.toArray.toList = args by simp] at hy
      rw [hx] at hy; exact Option.some.inj hy
    subst this
    exact .flat (hf x (List.mem_of_getElem? hx))
  refine (hc f args Hp.none v H' h (fun _ => none) w args.toArray none_WF hr hl).mono ?_
  rintro e w' ⟨β', v', rfl, h1, h2, h3, h4⟩
  refine ⟨by rw [h1.of_flat hv], h2.os, h2.tape, h2.output, h2.size, fun k hk => h2.block k hk (fun b k' q hb => by cases hb)⟩
/-- a function that looks at no memory, by what it is known to tell -/
theorem pure_post {f : FuncId} {args : List Value} (hf : ∀ x ∈ args, flatV x = true) {v : Value} (hv : ∀ β : Bij, VR β v v) {H : Hp} {β : Bij} {w : World} {args' : Array Value} (h : Calls P f args.toArray w fun e w' => e = .returned v ∧ Below w.heap.size w w') (hw : WF H) (hr : HR (Ab H.ban) β H w) (hl : VL β args args'.toList) : Calls P f args' w (CallPost β H w v H) := by
  have e : args' = args.toArray := by
    apply Array.toList_inj.1
    apply List.ext_getElem?
    intro i
    rcases Nat.lt_or_ge i args.length with h1 | h1
    · have hx : args[i]? = some (args[i]) := List.getElem?_eq_getElem h1
      obtain ⟨y, hy, hv⟩ := hl.get hx
      rw [hy, hv.of_flat (hf _ (List.getElem_mem h1))]
      simp [h1]
    · have h2 := hl.1
      rw [List.getElem?_eq_none (by omega)]
      simp [h1]
  rw [e]
  refine h.mono ?_
  rintro e w' ⟨rfl, hb⟩
  have hr' : HR (Ab H.ban) β H w' := hr.world hb.size (fun b k hk => hb.block _ (hr.dom b k hk).2.1) (fun r o e => hb.block _ (lt_of_row (hr.fix r o e)))
  exact ⟨β, v, rfl, hv β, ⟨hb.os, hb.tape, hb.output, hb.size, Ext.refl _, Nat.le_refl _, rfl, rfl, fun _ h => h, fun r hr _ => hb.block r hr, fun _ _ h => .inl h, fun _ q h => ⟨q, h, rfl, rfl⟩, fun _ _ h _ _ => ⟨h, rfl⟩, fun _ h => .inl h, fun b h1 h2 => by omega⟩, hw, hr'⟩
end
end Go.Proofs.YtmfjpdlegaimlaaGreatDoor
