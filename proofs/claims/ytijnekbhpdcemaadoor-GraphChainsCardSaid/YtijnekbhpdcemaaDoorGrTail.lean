/- A region whose last operations write what its loads read: the loads may be taken first all the same, for the last ones wait for them. -/
import Derived.Test.YtijnekbhpdcemaaDoorApp
import Derived.OrdersHeld
import Derived.StillTail
import Derived.Deep.MidRow
namespace Go.Proofs.YtijnekbhpdcemaaDoor
open Go Go.RowKit

section
variable {P : Program} {ops : Array Oper} {Q : Exit → Act → World → Prop} {md : Region.Mode} {S : World → Prop} {n : Nat}

/-- Any order; S is asked for behind the operations ahead of number n alone. -/
def AnyTo (P : Program) (md : Region.Mode) (ops : Array Oper) (Q : Exit → Act → World → Prop) (S : World → Prop) (n : Nat) : Nat → Array Bool → Act → World → Prop
  | 0, listed, a, w => Region.ready md ops listed = [] ∧ Q .normal a w
  | fuel + 1, listed, a, w =>
    (Region.ready md ops listed = [] → Q .normal a w) ∧
    ∀ i ∈ Region.ready md ops listed, wpOp P ops Q i (fun a' w' => (i < n → S w') ∧ AnyTo P md ops Q S n fuel (listed.setIfInBounds i true) a' w') a w

theorem any_of_to : ∀ (fuel : Nat) (listed : Array Bool) (a : Act) (w : World), AnyTo P md ops Q S n fuel listed a w → wpAny P md ops Q fuel listed a w
  | 0, _, _, _, h => h
  | fuel + 1, _, _, _, h => ⟨h.1, fun i hi => wpOp_mono (fun a' w' h' => any_of_to fuel _ a' w' h'.2) (h.2 i hi)⟩

theorem anyTo_first {i : Nat} {oi : Oper} {v : Value} (hi : ops[i]? = some oi) (hsel : ∀ (j : Nat) (o : Oper) cs b, ops[j]? = some o → o.op ≠ .select cs b)
    (hQ : ∀ c a w, Q (.panic c) (a.put oi.dst v) w → Q (.panic c) a w)
    (hs : Region.sinkB md ops n = true) (hc : Region.chainB md ops n = true) (hn : n < ops.size) (hin : i < n) :
    ∀ (fuel : Nat) (listed : Array Bool) (a : Act) (w : World), HeadInv md ops n listed →
      (∀ j oj, ops[j]? = some oj → j ≠ i → listed.getD j true = false → (∀ e ∈ oj.after, Region.binds md e = true → e.on ≠ i) → oi.apart ops oj = true) →
      i ∈ Region.ready md ops listed → YieldsIf P ops S oi v a → S w →
      AnyTo P md ops Q S n fuel (listed.setIfInBounds i true) (a.put oi.dst v) w → AnyTo P md ops Q S n (fuel + 1) listed a w := by
  intro fuel
  induction fuel with
  | zero =>
    intro listed a w inv _ hr hy hS H
    refine ⟨fun h => (by rw [h] at hr; cases hr), fun j hj => ?_⟩
    by_cases hji : j = i
    · subst hji; exact hy.wpOp hi hS ⟨fun _ => hS, H⟩
    · have := ready_mono hj hji
      rw [H.1] at this
      cases this
  | succ fuel ih =>
    intro listed a w inv hfree hr hy hS H
    refine ⟨fun h => (by rw [h] at hr; cases hr), fun j hj => ?_⟩
    by_cases hji : j = i
    · subst hji; exact hy.wpOp hi hS ⟨fun _ => hS, H⟩
    · have hun : listed.getD i true = false := (mem_ready.1 hr).1
      have hjn : j < n := by
        rcases Nat.lt_or_ge j n with h | h
        · exact h
        · exact absurd hj (tail_waits hs hc hn inv _ i rfl hin hun j h)
      have h1 := H.2 j (ready_mono hj hji)
      obtain ⟨hjun, oj, hoj, hall⟩ := mem_ready.1 hj
      have hnot : ∀ e ∈ oj.after, Region.binds md e = true → e.on ≠ i := fun e he hb heq => by
        have h1 := hall e he hb
        rw [heq, getD_both hun] at h1
        cases h1
      have h2 := wpOp_putIf hoj (hfree j oj hoj hji hjun hnot) (fun cs b => hsel i oi cs b hi) (fun cs b => hsel j oj cs b hoj) hQ hy h1
      have hfree' : ∀ k ok, ops[k]? = some ok → k ≠ i → (listed.setIfInBounds j true).getD k true = false →
          (∀ e ∈ ok.after, Region.binds md e = true → e.on ≠ i) → oi.apart ops ok = true := fun k ok hk hki hun hno => by
        refine hfree k ok hk hki ?_ hno
        by_cases hjk : j = k
        · subst hjk; exact hjun
        · rw [getD_set_ne true hjk] at hun; exact hun
      refine wpOp_mono (fun a' w' h3 => ⟨fun _ => h3.2.1 hjn, ih (listed.setIfInBounds j true) a' w' (inv.set hj hjn) hfree' (ready_mono hr (Ne.symm hji)) h3.1 (h3.2.1 hjn) ?_⟩) h2
      rw [Array.setIfInBounds_comm _ _ hji]
      exact h3.2.2

/-- That the listed ones are closed, and none of the last ones is among them: as a Bool. -/
def headB (md : Region.Mode) (ops : Array Oper) (n : Nat) (listed : Array Bool) : Bool :=
  listed.size == ops.size && (List.range ops.size).all (fun j => !listed.getD j false || ((ops[j]?).map (·.after.all fun e => !Region.binds md e || listed.getD e.on false)).getD true)
    && (List.range ops.size).all (fun t => decide (t < n) || !listed.getD t true)

theorem headB_inv {listed : Array Bool} (h : headB md ops n listed = true) : HeadInv md ops n listed := by
  simp only [headB, Bool.and_eq_true, beq_iff_eq] at h
  obtain ⟨⟨h1, h2⟩, h3⟩ := h
  refine ⟨h1, fun j oj hj hl e he hb => ?_, fun t ht hlt => ?_⟩
  · have hjl : j < ops.size := (Array.getElem?_eq_some_iff.1 hj).1
    have := List.all_eq_true.1 h2 j (List.mem_range.2 hjl)
    rw [hl, hj] at this
    simp only [Bool.not_true, Bool.false_or, Option.map_some, Option.getD_some] at this
    have := Array.all_eq_true'.1 this e he
    rw [hb] at this
    simpa using this
  · have := List.all_eq_true.1 h3 t (List.mem_range.2 hlt)
    simp only [Bool.or_eq_true, decide_eq_true_eq, Bool.not_eq_true'] at this
    rcases this with h | h
    · omega
    · exact h

/-- The side conditions as one Bool each, for kernel_rfl. -/
def shutB (md : Region.Mode) (ops : Array Oper) (n : Nat) : Bool := Region.noSelect ops && Region.sinkB md ops n && Region.chainB md ops n && decide (n < ops.size)
def mayB (md : Region.Mode) (ops : Array Oper) (n : Nat) (listed : Array Bool) (i : Nat) : Bool :=
  headB md ops n listed && Region.free md ops listed i && (Region.ready md ops listed).contains i && decide (i < n)

theorem anyTo_take {i : Nat} {oi : Oper} {v : Value} {fuel : Nat} {listed : Array Bool} {a : Act} {w : World} (hi : ops[i]? = some oi)
    (hb : shutB md ops n = true) (hm : mayB md ops n listed i = true)
    (hQ : ∀ c a w, Q (.panic c) (a.put oi.dst v) w → Q (.panic c) a w) (hy : YieldsIf P ops S oi v a) (hS : S w)
    (h : AnyTo P md ops Q S n fuel (listed.setIfInBounds i true) (a.put oi.dst v) w) : AnyTo P md ops Q S n (fuel + 1) listed a w := by
  simp only [shutB, mayB, Bool.and_eq_true, decide_eq_true_eq] at hb hm
  obtain ⟨⟨⟨hsel, hs⟩, hc⟩, hn⟩ := hb
  obtain ⟨⟨⟨h1, hf⟩, hr⟩, hin⟩ := hm
  exact anyTo_first hi (Region.noSelect_spec hsel) hQ hs hc hn hin fuel listed a w (headB_inv h1) (Region.free_spec hi hf) (by simpa using hr) hy hS h

/-- But one may come up. -/
theorem anyTo_one {i : Nat} {o : Oper} {fuel : Nat} {listed : Array Bool} {a : Act} {w : World} (hr : Region.ready md ops listed = [i]) (hi : ops[i]? = some o) (hg : Region.wanted o (yielded ops a.tmps) = true)
    (h : Oper.wp P o a w (fun a' w' => (i < n → S w') ∧ AnyTo P md ops Q S n fuel (listed.setIfInBounds i true) a' w') Q) : AnyTo P md ops Q S n (fuel + 1) listed a w := by
  refine ⟨fun h0 => absurd (hr ▸ h0) (by simp), fun j hj => ?_⟩
  rw [hr, List.mem_singleton] at hj
  subst hj
  unfold wpOp
  rw [hi]
  simp only [hg, if_true]
  exact .inl h

theorem anyTo_done {listed : Array Bool} {a : Act} {w : World} (hr : Region.ready md ops listed = []) (h : Q .normal a w) :
    ∀ fuel, AnyTo P md ops Q S n fuel listed a w
  | 0 => ⟨hr, h⟩
  | _ + 1 => ⟨fun _ => h, by rw [hr]; simp⟩

theorem wp_region_to {id : Nat} {a : Act} {w : World} (S : World → Prop) (n : Nat) (hm : P.follows .mixedOrders = true)
    (h : AnyTo P .any ops Q S n ops.size (Array.replicate ops.size false) a w.drew) : (Code.region id ops true).wp P Q a w :=
  wp_region_any hm (any_of_to _ _ _ _ h)
end

section
variable {P : Program} {l : List Oper} {Q : Exit → Act → World → Prop} {S : World → Prop} {n : Nat}
/-- The same over a region that is written out: the state a list of Bools. -/
def To (P : Program) (l : List Oper) (Q : Exit → Act → World → Prop) (S : World → Prop) (n : Nat) (fuel : Nat) (listed : List Bool) (a : Act) (w : World) : Prop := AnyTo P .any l.toArray Q S n fuel listed.toArray a w

theorem to_start {id : Nat} {a : Act} {w : World} (S : World → Prop) (n : Nat) (hm : P.follows .mixedOrders = true)
    (h : To P l Q S n l.length (List.replicate l.length false) a w.drew) : (Code.region id l.toArray true).wp P Q a w := by
  refine wp_region_to S n hm ?_
  unfold To at h
  simpa using h
theorem to_take (i : Nat) {oi : Oper} {v : Value} {fuel : Nat} {listed : List Bool} {t : Array Value} {t' : Array Value} {d : List Deferred} {w : World} (hi : l[i]? = some oi)
    (hb : shutB .any l.toArray n = true) (hm : mayB .any l.toArray n listed.toArray i = true)
    (hQ : ∀ c a w, Q (.panic c) (a.put oi.dst v) w → Q (.panic c) a w) (hy : YieldsIf P l.toArray S oi v ⟨t, d⟩) (hS : S w) (ht : (Act.put ⟨t, d⟩ oi.dst v) = ⟨t', d⟩)
    (h : To P l Q S n fuel (listed.set i true) ⟨t', d⟩ w) : To P l Q S n (fuel + 1) listed ⟨t, d⟩ w := by
  unfold To at *
  refine anyTo_take (i := i) (oi := oi) (v := v) (by simpa using hi) hb hm hQ hy hS ?_
  rw [ht]
  simpa using h
theorem to_one (i : Nat) {o : Oper} {fuel : Nat} {listed : List Bool} {a : Act} {w : World} (hr : Region.ready .any l.toArray listed.toArray = [i]) (hi : l[i]? = some o) (hg : Region.wanted o (yielded l.toArray a.tmps) = true)
    (h : ∀ K : Act → World → Prop, Hid (∀ a' w', ((i < n → S w') ∧ To P l Q S n fuel (listed.set i true) a' w') → K a' w') → Oper.wp P o a w K Q) : To P l Q S n (fuel + 1) listed a w := by
  have h1 := h _ (Lib.hid (fun _ _ h => h))
  unfold To at *
  refine anyTo_one (i := i) (o := o) hr (by simpa using hi) hg ?_
  simpa using h1
theorem to_done {fuel : Nat} {listed : List Bool} {a : Act} {w : World} (hr : Region.ready .any l.toArray listed.toArray = []) (h : Q .normal a w) : To P l Q S n fuel listed a w := anyTo_done hr h fuel
end
end Go.Proofs.YtijnekbhpdcemaaDoor
