/- The small machine: what it tells, the program tells. Of no program. -/
import Derived.Test.YtkgbifbbpmdpgaaPSh12
set_option linter.unusedVariables false
set_option linter.unusedSimpArgs false
namespace Go.Proofs.Ytkgbifbbpmdpgaa.Sh
section
open Go.RowKit
variable {bs : Inhabited Base}
section
variable {P : Program}
theorem call_sound {code : Code → Regs → Hp → Out} (hcode : CodeSnd P code) : CallOk P (fun f args H => runF P code args H P.funcs[f]?) := by
 intro f args H v H' hrun β w args' hw hr hl
 have hrun' : runF P code args H P.funcs[f]? = .ok v H' := hrun
 unfold runF at hrun'
 split at hrun'
 · rename_i fn hfn
   split at hrun'
   · rename_i c hbody
     cases hcc : (Nat.ble fn.ntmps 1000 && (Nat.ble (lenL args) fn.ntmps && codeOk fn.ntmps c)) with
     | false => rw [hcc] at hrun'; cases hrun'
     | true =>
       rw [hcc] at hrun'
       obtain ⟨h1, h2⟩ := and_split hcc
       obtain ⟨h2, h3⟩ := and_split h2
       have h1 := of_ble h1
       have h2 := of_ble h2
       rw [lenL_eq] at h2
       have hrun2 : endS' P fn (code c (regsOf args 0 (Tr.blank _ regDepth)) H) = .ok v H' := hrun'
       have hlen : args'.size = args.length := by rw [hl.1]; simp
       have hblank : RR β (Tr.blank Value regDepth) (Array.replicate fn.ntmps undef) := by
        intro t
        have e1 : getR (Tr.blank Value regDepth) t = undefS := by unfold getR; rw [Tr.get_blank]
        have e2 : (Array.replicate fn.ntmps undef).getD t undef = undef := by
         rw [Array.getD_eq_getD_getElem?, Array.getElem?_replicate]; split <;> rfl
        rw [e1, e2]; exact VR.undef β
       have hwide : Wide (Tr.blank Value regDepth) := fun t ht => Tr.inb_blank 10 (t + 1) (by omega) (by omega)
       obtain ⟨h4, h5⟩ := regsOf_RR hl 0 _ _ hblank hwide (by simp; omega) (by omega)
       have etmps : ((Array.replicate fn.ntmps undef).toList.take 0 ++ (args'.toList ++ (Array.replicate fn.ntmps undef).toList.drop (0 + args'.toList.length))).toArray = args' ++ Array.replicate (fn.ntmps - args'.size) undef := by
        apply Array.toList_inj.1
        simp [List.drop_replicate]
       rw [etmps] at h4
       have hs : S fn.ntmps β (regsOf args 0 (Tr.blank _ regDepth)) H { tmps := args' ++ Array.replicate (fn.ntmps - args'.size) undef, defers := [] } w :=
        ⟨hw, hr, h4, h5, h1, by simp; omega, by simp; omega, rfl⟩
       refine calls_of_wp hfn hbody ?_
       cases hres : code c (regsOf args 0 (Tr.blank _ regDepth)) H with
       | bad n l => rw [hres] at hrun2; cases hrun2
       | ok e R' H1 =>
         rw [hres] at hrun2
         refine wp_mono (hcode fn.ntmps c _ _ _ _ _ hres h3 β _ w hs) ?_
         rintro e2 a2 w2 ⟨he, β', hst, hs'⟩
         have fin : retL H1 (ressS P R' H1 fn.results.toList) = .ok v H' → a2.defers = [] ∧ ∃ u, (results fn a2.tmps).run P w2 = .ok u w2 ∧ CallPost β H w v H' (.returned u) w2 := by
          intro hret
          obtain ⟨rfl, u, hu, hrunr⟩ := results_run (P := P) hs'.hr (fun b hb => hb) hs'.rr fn hret
          exact ⟨hs'.defers, u, hrunr, β', u, rfl, hu, hst, hs'.wf, by rw [← hst.ban]; exact hs'.hr⟩
         cases e with
         | normal => cases e2 <;> first | exact he.elim | exact fin hrun2
         | ret => cases e2 <;> first | exact he.elim | exact fin hrun2
         | exit i => cases hrun2
   · cases hrun'
 · cases hrun'
def XOk [Inhabited Base] (P : Program) (X : XF) : Prop :=
 ∀ f k, X f = some k → ∀ args H v H', k args H = .ok v H' → ∀ β w (args' : Array Value), WF H → HR (Ab H.ban) β H w → VL β args args'.toList → Calls P f args' w (CallPost β H w v H')
theorem XOk.none [Inhabited Base] : XOk P XF.none := fun f k h => by cases h
theorem enterX_ok {X : XF} (hX : XOk P X) {g : FuncId → List Value → Hp → Ret} (hg : CallOk P g) : CallOk P (enterX X g) := by
 intro f args H v H' h
 unfold enterX at h
 cases hx : X f with
 | none => rw [hx] at h; exact hg f args H v H' h
 | some k => rw [hx] at h; exact hX f k hx args H v H' h
theorem code_step {X : XF} (hX : XOk P X) (hreg : ∀ call, CallOk P call → RegionOk P call) (n : Nat) (hall : ∀ m, m ≤ n → CodeSnd P (codeS P X m)) : CodeSnd P (codeS P X (n + 1)) := by
 intro N c R H e R' H' hrun hok β a w hs
 have hc := hall n (Nat.le_refl n)
 have hcall := enterX_ok hX (call_sound hc)
 cases c with
 | skip => cases hrun; exact wp_skip ⟨trivial, β, St.refl _ _ _, hs⟩
 | region id ops draw => exact hreg _ hcall N id ops R H e R' H' draw hrun hok β a w hs
 | seq x y =>
   obtain ⟨h1, h2⟩ := codeOk_seq hok
   have hrun' : seqS (codeS P X n y) (codeS P X n x R H) = .ok e R' H' := hrun
   cases hx : codeS P X n x R H with
   | bad k l => rw [hx] at hrun'; cases hrun'
   | ok e1 R1 H1 =>
     rw [hx] at hrun'
     refine wp_seq (wp_mono (hc N x R H e1 R1 H1 hx h1 β a w hs) ?_)
     rintro e2 a2 w2 ⟨he, β2, h3, h4⟩
     cases e1 with
     | normal =>
       cases e2 <;> first | exact he.elim | skip
       exact wp_mono (hc N y R1 H1 e R' H' hrun' h2 β2 a2 w2 h4) (fun e3 a3 w3 hp => post_trans hs.hr h4.hr hs.wf h3 hp)
     | exit i =>
       have h9 : Out.ok (.exit i) R1 H1 = .ok e R' H' := hrun'
       cases h9
       cases e2 <;> first | exact he.elim | skip
       exact ⟨he, β2, h3, h4⟩
     | ret =>
       have h9 : Out.ok .ret R1 H1 = .ok e R' H' := hrun'
       cases h9
       cases e2 <;> first | exact he.elim | skip
       exact ⟨he, β2, h3, h4⟩
 | cond o x y =>
   obtain ⟨h1, h2⟩ := codeOk_cond hok
   have hrun' : condS (codeS P X n x R H) (codeS P X n y R H) (evS R o) = .ok e R' H' := hrun
   have ho := hs.rr.eval o
   generalize evS R o = v at hrun' ho
   unfold condS at hrun'
   split at hrun'
   · rename_i t
     refine wp_cond ho.bool ?_
     cases t with
     | true => exact hc N x R H e R' H' hrun' h1 β a w hs
     | false => exact hc N y R H e R' H' hrun' h2 β a w hs
   · cases hrun'
 | block id x =>
   have hrun' : blockS id (codeS P X n x R H) = .ok e R' H' := hrun
   cases hx : codeS P X n x R H with
   | bad k l => rw [hx] at hrun'; cases hrun'
   | ok e1 R1 H1 =>
     rw [hx] at hrun'
     refine wp_block (wp_mono (hc N x R H e1 R1 H1 hx hok β a w hs) ?_)
     rintro e2 a2 w2 ⟨he, β2, h3, h4⟩
     cases e1 with
     | normal =>
       have h9 : Out.ok .normal R1 H1 = .ok e R' H' := hrun'
       cases h9
       cases e2 <;> first | exact he.elim | skip
       exact ⟨trivial, β2, h3, h4⟩
     | ret =>
       have h9 : Out.ok .ret R1 H1 = .ok e R' H' := hrun'
       cases h9
       cases e2 <;> first | exact he.elim | skip
       exact ⟨trivial, β2, h3, h4⟩
     | exit i =>
       cases e2 <;> first | exact he.elim | skip
       rename_i j
       have hij : i = j := he
       subst hij
       have h9 : (cond (Nat.beq i id) (.ok .normal R1 H1) (.ok (.exit i) R1 H1) : Out) = .ok e R' H' := hrun'
       show if i = id then _ else _
       by_cases hid : i = id
       · rw [beq_t hid] at h9
         rw [if_pos hid]
         cases h9
         exact ⟨trivial, β2, h3, h4⟩
       · rw [beq_f hid] at h9
         rw [if_neg hid]
         cases h9
         exact ⟨rfl, β2, h3, h4⟩
 | loop x => exact loop_sound (n + 1) (fun m hm => hall m (by omega)) x hrun hok hs
 | exit id => cases hrun; exact wp_exit ⟨rfl, β, St.refl _ _ _, hs⟩
 | ret => cases hrun; exact wp_ret ⟨trivial, β, St.refl _ _ _, hs⟩
 | label l => cases hrun; exact wp_label ⟨trivial, β, St.refl _ _ _, hs⟩
 | scope x =>
   refine wp_scope_straight (wp_mono (hc N x R H e R' H' hrun hok β a w hs) ?_)
   rintro e2 a2 w2 ⟨he, h3⟩
   cases e2 <;> first | (cases e <;> exact he.elim) | exact ⟨he, h3⟩
 | rangeFunc f p x y => cases hrun
 | goto l => cases hrun
 | refuse why => cases hrun
theorem code_sound {X : XF} (hX : XOk P X) (hreg : ∀ call, CallOk P call → RegionOk P call) : ∀ n, CodeSnd P (codeS P X n) := by
 intro n
 induction n using Nat.strongRecOn with
 | ind n ih =>
   cases n with
   | zero => intro N c R H e R' H' hrun; cases hrun
   | succ n => exact code_step hX hreg n (fun m hm => ih m (by omega))
theorem none_WF : WF Hp.none := by
 refine ⟨Nat.zero_le 1, ⟨Nat.le_refl 1, by decide⟩, fun k h1 h2 => ⟨Tr.inb_blank 17 k h1 (by omega), Tr.inb_blank 17 k h1 (by omega)⟩, fun b _ => Tr.get_blank 17 b, fun b q h => ?_, fun g p h => ?_, fun b b' q q' h => ?_, fun b h1 h2 => ?_⟩
 · rw [show Hp.none.tr = Tr.blank Blk 17 from rfl, Tr.get_blank] at h; cases h
 · rw [show Hp.none.grp = Tr.blank _ 17 from rfl, Tr.get_blank] at h; cases h
 · rw [show Hp.none.tr = Tr.blank Blk 17 from rfl, Tr.get_blank] at h; cases h
 · have : b < 1 := h2
   omega
theorem run_sound (hB : ∀ b, baseAt b = none) (hR : ∀ r, baseRow r = none) {X : XF} (hX : XOk P X) (hreg : ∀ call, CallOk P call → RegionOk P call) (n : Nat) (f : FuncId) (args : List Value) (hf : ∀ x ∈ args, flatV x = true) (v : Value) (H' : Hp) (hv : flatV v = true) (h : callX P X n f args Hp.none = .ok v H') (w : World) :
  Calls P f args.toArray w fun e w' => e = .returned v ∧ Below w.heap.size w w' := by
 have hc := call_sound (code_sound hX hreg n)
 have hr : HR (Ab Hp.none.ban) (fun _ => none) Hp.none w := ⟨fun b k h => (by cases h), fun b k q h => (by cases h), fun b b' k k' q q' h => (by cases h), fun b k h => (by rw [hB] at h; cases h), fun r o e => (by rw [hR] at e; cases e), fun b k h => (by cases h)⟩
 have hl : VL (fun _ => none) args args.toArray.toList := by
  refine ⟨by simp, fun i x y hx hy => ?_⟩
  have : x = y := by
   rw [show args.toArray.toList = args by simp] at hy
   rw [hx] at hy; exact Option.some.inj hy
  subst this
  exact .flat (hf x (List.mem_of_getElem? hx))
 refine (hc f args Hp.none v H' h (fun _ => none) w args.toArray none_WF hr hl).mono ?_
 rintro e w' ⟨β', v', rfl, h1, h2, h3, h4⟩
 refine ⟨by rw [h1.of_flat hv], h2.os, h2.tape, h2.output, h2.size, fun k hk => h2.block k hk (fun b k' q hb => by cases hb)⟩
end
end
section
open Go.RowKit
variable {bs : Inhabited Base}
theorem bit_eq (m i : Nat) : bitS m i = m.testBit i := by
 rw [Nat.testBit_eq_decide_div_mod_eq]
 unfold bitS
 by_cases h : m / 2 ^ i % 2 = 1
 · rw [beq_t (show Nat.mod (Nat.div m (Nat.pow 2 i)) 2 = 1 from h)]; simp [h]
 · rw [beq_f (show ¬ Nat.mod (Nat.div m (Nat.pow 2 i)) 2 = 1 from h)]; simp [h]
noncomputable def mk (acc : List Nat) (k : Nat) : Nat := match nth acc k with | some m => m | none => 0
theorem edges_bit (acc : List Nat) (i : Nat) : ∀ es : List Edge, bitS (edgesS acc es) i = true → ∃ e, e ∈ es ∧ Region.binds .any e = true ∧ (e.on = i ∨ bitS (mk acc e.on) i = true)
 | [], h => by
   rw [bit_eq] at h
   have : (0 : Nat).testBit i = true := h
   simp at this
 | e :: r, h => by
   have h' : bitS (cond (Region.binds .any e) (Nat.lor (Nat.lor (Nat.pow 2 e.on) (mk acc e.on)) (edgesS acc r)) (edgesS acc r)) i = true := h
   cases hb : Region.binds .any e with
   | false =>
     rw [hb] at h'
     obtain ⟨e', h1, h2⟩ := edges_bit acc i r h'
     exact ⟨e', List.mem_cons_of_mem _ h1, h2⟩
   | true =>
     rw [hb] at h'
     have h2 : ((2 ^ e.on ||| mk acc e.on) ||| edgesS acc r).testBit i = true := by rw [← bit_eq]; exact h'
     rw [Nat.testBit_or, Nat.testBit_or, Bool.or_eq_true, Bool.or_eq_true] at h2
     rcases h2 with (h2 | h2) | h2
     · rw [Nat.testBit_two_pow] at h2
       exact ⟨e, List.mem_cons_self .., hb, .inl (by simpa using h2)⟩
     · exact ⟨e, List.mem_cons_self .., hb, .inr (by rw [bit_eq]; exact h2)⟩
     · obtain ⟨e', h3, h4⟩ := edges_bit acc i r (by rw [bit_eq]; exact h2)
       exact ⟨e', List.mem_cons_of_mem _ h3, h4⟩
theorem ahead_spec : ∀ (l : List Oper) (acc : List Nat), ∃ tail, aheadS l acc = acc ++ tail ∧ tail.length = l.length ∧ ∀ (i : Nat) (o : Oper), l[i]? = some o → (acc ++ tail)[acc.length + i]? = some (edgesS ((acc ++ tail).take (acc.length + i)) o.after.toList)
 | [], acc => ⟨[], by simp [aheadS], rfl, fun i o h => by simp at h⟩
 | o :: r, acc => by
   obtain ⟨tail, h1, h2, h3⟩ := ahead_spec r (acc ++ [edgesS acc o.after.toList])
   refine ⟨edgesS acc o.after.toList :: tail, ?_, by simp [h2], fun i x hx => ?_⟩
   · show aheadS r (catL acc [edgesS acc o.after.toList]) = _
     rw [catL_eq, h1]; simp
   · cases i with
     | zero =>
       simp at hx; subst hx
       simp
     | succ i =>
       have := h3 i x (by simpa using hx)
       simp only [List.length_append, List.length_singleton, List.append_assoc, List.singleton_append] at this
       rw [show acc.length + (i + 1) = acc.length + 1 + i by omega]
       exact this
theorem mask_spec {L : List Oper} {j : Nat} {o : Oper} (h : L[j]? = some o) {i : Nat} (hb : bitS (maskS L j) i = true) : ∃ e, e ∈ o.after.toList ∧ Region.binds .any e = true ∧ (e.on = i ∨ (e.on < j ∧ bitS (maskS L e.on) i = true)) := by
 obtain ⟨tail, h1, h2, h3⟩ := ahead_spec L []
 simp only [List.nil_append, List.length_nil, Nat.zero_add] at h1 h3
 have hm := h3 j o h
 have e1 : maskS L j = edgesS (tail.take j) o.after.toList := by
  unfold maskS
  rw [h1, nth_eq, hm]
 rw [e1] at hb
 obtain ⟨e, h4, h5, h6⟩ := edges_bit _ i _ hb
 refine ⟨e, h4, h5, ?_⟩
 rcases h6 with h6 | h6
 · exact .inl h6
 · right
   unfold mk at h6
   rw [nth_eq, List.getElem?_take] at h6
   split at h6
   · rename_i m hm'
     split at hm'
     · rename_i hlt
       refine ⟨hlt, ?_⟩
       unfold maskS
       rw [h1, nth_eq, hm']; exact h6
     · cases hm'
   · rw [bit_eq] at h6; simp at h6
theorem allI_spec {α : Type} (f : Nat → α → Bool) : ∀ (l : List α) (k : Nat), allI f l k = true → ∀ (i : Nat) (x : α), l[i]? = some x → f (k + i) x = true
 | [], k, h, i, x, hx => by simp at hx
 | a :: r, k, h, i, x, hx => by
   have h' : cond (f k a) (allI f r (Nat.succ k)) false = true := h
   cases hf : f k a with
   | false => rw [hf] at h'; cases h'
   | true =>
     rw [hf] at h'
     cases i with
     | zero => simp at hx; subst hx; simpa using hf
     | succ i =>
       have := allI_spec f r (k + 1) h' i x (by simpa using hx)
       rw [show k + (i + 1) = k + 1 + i by omega]; exact this
def Meets (L : List Oper) (o o' : Oper) : Prop := (∃ d, o'.dst = some d ∧ d ∈ namesOf L o) ∨ (∃ d, o.dst = some d ∧ d ∈ namesOf L o')
structure DrawOk (L : List Oper) : Prop where
 small : ∀ (j : Nat) (o : Oper), L[j]? = some o → ∀ t, t ∈ namesOf L o → t < 1000
 back : ∀ (j : Nat) (o : Oper), L[j]? = some o → ∀ e, e ∈ o.after.toList → Region.binds .any e = true → e.on < j
 meet : ∀ (i j : Nat) (o o' : Oper), L[j]? = some o → L[i]? = some o' → i < j → Meets L o o' → bitS (maskS L j) i = true
theorem drawOk_spec {L : List Oper} (h : drawOk L = true) : DrawOk L := by
 have h1 := allI_spec _ L 0 h
 refine ⟨fun j o hj t ht => ?_, fun j o hj e he hb => ?_, fun i j o o' hj hi hij hm => ?_⟩
 · have h2 := h1 j o hj
   simp only [Nat.zero_add, Bool.and_eq_true] at h2
   have h3 := h2.1.1.1
   rw [List.all_eq_true] at h3
   exact Nat.le_of_ble_eq_true (h3 t ht)
 · have h2 := h1 j o hj
   simp only [Nat.zero_add, Bool.and_eq_true] at h2
   have h3 := h2.1.1.2
   rw [List.all_eq_true] at h3
   have h4 := h3 e he
   rw [hb] at h4
   have h5 : Nat.blt e.on j = true := by simpa using h4
   exact Nat.le_of_ble_eq_true h5
 · have h2 := h1 j o hj
   simp only [Nat.zero_add, Bool.and_eq_true] at h2
   have h3 := allI_spec _ L 0 h2.2 i o' hi
   simp only [Nat.zero_add, Bool.or_eq_true] at h3
   rcases h3 with h3 | h3 | h3
   · exact absurd (of_ble h3) (by omega)
   · exfalso
     rw [Bool.and_eq_true] at h3
     rcases hm with ⟨d, h4, h5⟩ | ⟨d, h4, h5⟩
     · have := h3.1; rw [h4] at this; simp at this; rw [(memN_eq _ _).2 h5] at this; cases this
     · have := h3.2; rw [h4] at this; simp at this; rw [(memN_eq _ _).2 h5] at this; cases this
   · exact h3
theorem mask_lt {L : List Oper} (hd : DrawOk L) : ∀ (j : Nat) (o : Oper), L[j]? = some o → ∀ i, bitS (maskS L j) i = true → i < j := by
 intro j
 induction j using Nat.strongRecOn with
 | ind j ih =>
   intro o ho i hb
   obtain ⟨e, h1, h2, h3⟩ := mask_spec ho hb
   have h4 := hd.back j o ho e h1 h2
   rcases h3 with h3 | ⟨h3, h5⟩
   · omega
   · have hlt : e.on < L.length := by have := (List.getElem?_eq_some_iff.1 ho).1; omega
     have := ih e.on h4 _ (List.getElem?_eq_getElem hlt) i h5
     omega
def Closed (L : List Oper) (D : Nat → Prop) : Prop := ∀ (j : Nat) (o : Oper), L[j]? = some o → D j → ∀ e, e ∈ o.after.toList → Region.binds .any e = true → D e.on
def Ready (L : List Oper) (D : Nat → Prop) (j : Nat) : Prop := ∀ o, L[j]? = some o → ∀ e, e ∈ o.after.toList → Region.binds .any e = true → D e.on
theorem mask_in {L : List Oper} (hd : DrawOk L) {D : Nat → Prop} (hc : Closed L D) : ∀ (j : Nat) (o : Oper), L[j]? = some o → Ready L D j → ∀ i, bitS (maskS L j) i = true → D i := by
 intro j
 induction j using Nat.strongRecOn with
 | ind j ih =>
   intro o ho hr i hb
   obtain ⟨e, h1, h2, h3⟩ := mask_spec ho hb
   have h4 := hr o ho e h1 h2
   rcases h3 with h3 | ⟨h3, h5⟩
   · rw [← h3]; exact h4
   · have hlt : e.on < L.length := by have := (List.getElem?_eq_some_iff.1 ho).1; omega
     have hoe := List.getElem?_eq_getElem hlt
     refine ih e.on h3 _ hoe (fun o' ho' e' he' hb' => hc e.on o' ho' h4 e' he' hb') i h5
end
end Go.Proofs.Ytkgbifbbpmdpgaa.Sh
