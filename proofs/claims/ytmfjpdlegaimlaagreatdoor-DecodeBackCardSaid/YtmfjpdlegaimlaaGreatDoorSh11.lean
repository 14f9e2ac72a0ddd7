/- The small machine's operations: what each does. Of no program. -/
import Derived.Test.YtmfjpdlegaimlaaGreatDoorSh10
namespace Go.Proofs.YtmfjpdlegaimlaaGreatDoor
open Go.RowKit
set_option linter.unusedVariables false
set_option linter.unusedSimpArgs false
variable {bs : Inhabited Base}

section
variable {P : Program} {A : Nat → Prop} {β : Bij} {H : Hp} {w : World}

theorem bytesL_mem : ∀ (l : List Value) (bs : List UInt8), bytesL l = some bs → l = bs.map fun b => Value.int .u8 (b.toNat : Int)
  | [], bs, h => by cases h; rfl
  | x :: r, bs, h => by
    have h' : (match byteOf x, bytesL r with | some b, some l => some (b :: l) | _, _ => none) = some bs := h
    split at h'
    · rename_i b l hb hl
      cases h'
      have h1 := bytesL_mem r l hl
      unfold byteOf at hb
      split at hb
      · rename_i n
        rcases cond_split hb with ⟨h2, h3⟩ | ⟨_, h3⟩
        · cases h3
          obtain ⟨h2, h4⟩ := and_split h2
          simp only [List.map_cons, ← h1]
          congr 2
          have h2 : 0 ≤ n := by simpa [leI_eq] using h2
          have h4 : n ≤ 255 := by simpa [leI_eq] using h4
          have : (UInt8.ofNat n.toNat).toNat = n.toNat := by simp; omega
          rw [this]; omega
        · cases h3
      · cases hb
    · cases h'
theorem kindT_eq {t : TypeId} {k : IntKind} (h : kindT P t = some k) : P.underlying t = some (.int k) := by
  unfold kindT at h
  split at h
  · rename_i k' e; cases h; exact e
  · cases h
theorem conv_run (hr : HR A β H w) (hA : ∀ b, memN H.ban b = false → A b) {s d : TypeId} {x y : Value} (h : VR β x y) : Loads P β H w (convert s d y) (convS P H s d x) := by
  have hq : ∀ (z : Value) (n : Nat), y = z → Loads P β H w (convert s d y) (Nx.qf n H (quick P (convert s d z))) := by
    intro z n e
    subst e
    have := quick_flat (P := P) (β := β) (H := H) (s := convert s d y) (n := n)
    revert this
    generalize Nx.qf n H (quick P (convert s d y)) = r
    intro hp
    cases r with
    | val v H' => obtain ⟨h1, v', h2, h3⟩ := hp; exact ⟨h1, v', h2, h3 w⟩
    | bad n => trivial
    | _ => exact hp
  unfold convS
  split
  · rename_i k n
    have hq' := hq _ 62 h.int
    unfold convI
    split
    · rename_i k0 k' m h1 h2
      cases hs : smallK k' m with
      | false => exact hq'
      | true =>
        have h1 := kindT_eq h1
        have h2 := kindT_eq h2
        obtain rfl := h.int
        refine ⟨rfl, .int k' (.ofNat m), .atom rfl, ?_⟩
        have hw := smallK_eq hs
        simp [convert, under_run h1, under_run h2, Conv.intToInt]
        exact hw
    · exact hq'
  · exact hq _ _ h.string
  · rename_i b off n c0
    split
    · rename_i q hq1 he hd
      obtain ⟨e, he, hb⟩ := Option.bind_eq_some_iff.1 he
      have hu := sliceE_eq he
      cases hc : (cellsAt q off n).bind bytesL with
      | none => trivial
      | some bs =>
        obtain ⟨l, h1, h2⟩ := Option.bind_eq_some_iff.1 hc
        have h2 := bytesL_mem _ _ h2
        obtain ⟨h3, h4, h5⟩ := cellsAt_eq h1
        obtain ⟨h7, h8, h9⟩ := read_inv hq1
        have hbs : bs.length = n := by rw [h2] at h5; simpa using h5
        refine ⟨rfl, .string ⟨bs.toArray⟩, .atom rfl, ?_⟩
        rcases h.slice_inv with ⟨g, _⟩ | ⟨g0, a', c, g, rfl⟩ | ⟨b', off', k, c, g, hk, hnc, hcm, h0, rfl⟩
        · cases g
        · have hb0 : bs = [] := List.eq_nil_of_length_eq_zero (by omega)
          subst hb0
          have := run_convert_bytes_back (P := P) w s d e a' c [] hu hb hd (fun j hj => by simp at hj)
          simpa [g0] using this
        · cases g
          have hrow := hr.row b k q hk h7 h8 (hA _ h9)
          have := run_convert_bytes_back (P := P) w s d e ⟨k.blk, off, none⟩ c bs hu hb hd (fun j hj => by
            have hx : l[j]? = some (.int .u8 ((bs[j]).toNat : Int)) := by rw [h2]; simp [hj]
            rw [h4] at hx
            rw [List.getElem?_take] at hx
            split at hx
            · rw [List.getElem?_drop] at hx
              obtain ⟨y, hy, hv⟩ := row_cell hrow (read_elem hq1) hx
              rw [add_addr, hy, hv.int]
            · cases hx)
          rw [hbs] at this
          exact this
    · trivial
  · trivial
theorem Loads.does {s : Sem Value} {n : Nx} (h : Loads P β H w s n) (hw : WF H) (hr : HR A β H w) : Does P A β H w (do pure (Next.value (← s))) n := by
  cases n with
  | val v H' =>
    obtain ⟨rfl, v', hv, hs⟩ := h
    exact ⟨β, v', w, run_v hs, St.refl _ _ _, hv, hr, hw⟩
  | skip H' => exact h.elim
  | enter f args H' => exact h.elim
  | bad n => trivial

theorem args_VL {R : Regs} {a : Act} (h : RR β R a.tmps) (xs : Array Operand) : VL β (mapL (evS R) xs.toList) (xs.map a.eval).toList := by
  rw [mapL_eq, Array.toList_map]; exact VL.map (fun x => h.eval x) _
theorem parts_PL {R : Regs} {a : Act} (h : RR β R a.tmps) (ps : Array (Nat × Operand)) : PL β (partsS R ps) (ps.map fun p => (p.1, a.eval p.2)).toList := by
  unfold partsS
  rw [mapL_eq, Array.toList_map]
  induction ps.toList with
  | nil => exact .nil
  | cons p r ih => exact .cons (h.eval p.2) ih
theorem opt_OR {R : Regs} {a : Act} (h : RR β R a.tmps) (x : Option Operand) : OR β (x.map (evS R)) (x.map a.eval) := by
  cases x with
  | none => trivial
  | some x => exact h.eval x

theorem call_does (hw : WF H) (hr : HR A β H w) (hA : ∀ b, memN H.ban b = false → A b) {R : Regs} {a : Act} (h : RR β R a.tmps) (c : Call) (f : Operand) (hc : c.callee = .value f) (t : TypeId) :
    Does P A β H w (do let d ← resolve a.eval c t; invoke d.target d.args) (callV P H (mapL (evS R) c.args.toList) (evS R f)) := by
  have hf := h.eval f
  have ha := args_VL h c.args
  revert hf
  generalize evS R f = vf
  intro hf
  unfold callV
  split
  · rename_i fn first captured
    obtain ⟨ys, ys', hy, h1, h2⟩ := hf.func_inv
    unfold callS
    split
    · rename_i fd hfd
      split
      · rename_i body hbody
        cases hname : (fd.name == "runtime.NumGoroutine") with
        | true => trivial
        | false =>
          have hne : ¬ fd.name = "runtime.NumGoroutine" := by simpa using hname
          refine ⟨rfl, ys ++ c.args.map a.eval ++ ys', ?_, ?_⟩
          · simp [hne, resolve, hc, hy, Deferred.ofValue, invoke, callFunc, hfd, hname, hbody]
          · rw [catL_eq, catL_eq, Array.toList_append, Array.toList_append, List.append_assoc]
            exact h1.append (ha.append h2)
      · trivial
    · trivial
  · trivial
theorem min_run {f : Array TypeId → TypeId → Array Value → Sem Value} {ts : List TypeId} {t : TypeId} {l m : List Value} (h : VL β l m) (n k : Nat) : Pure P β H (f ts.toArray t m.toArray) (cond (flatL l) (Nx.qf n H (quick P (f ts.toArray t l.toArray))) (.bad k)) := by
  cases hf : flatL l with
  | false => trivial
  | true =>
    rw [VL.of_flat h (flatL_mem _ hf)]
    exact quick_flat
theorem len_run {ts : Array TypeId} {t : TypeId} {l m : List Value} (h : VL β l m) : Pure P β H (Builtin.len_ ts t m.toArray) (lenS P H (nth l 0) ((nth ts.toList 0).bind P.underlying)) := by
  rw [nth_eq, nth_eq]
  unfold lenS
  split
  · rename_i a n c0 e hx hu
    obtain ⟨t0, ht0, hu⟩ := Option.bind_eq_some_iff.1 hu
    obtain ⟨y, hy, hv⟩ := h.get hx
    obtain ⟨a', c, rfl, _, _⟩ := hv.slice_len
    have h1 : ts[0]? = some t0 := by simpa using ht0
    have h2 : m.toArray[0]? = some (.slice a' n c) := by simpa using hy
    exact Pure.ok (.atom rfl) (fun w => by simp only [Builtin.len_, h1, h2, Sem.run_bind, under_run hu, Result.andThen_ok]; rfl)
  · rename_i s hx hu
    obtain ⟨t0, ht0, hu⟩ := Option.bind_eq_some_iff.1 hu
    obtain ⟨y, hy, hv⟩ := h.get hx
    obtain rfl := hv.string
    have h1 : ts[0]? = some t0 := by simpa using ht0
    have h2 : m.toArray[0]? = some (.string s) := by simpa using hy
    rw [forceN_eq]
    exact Pure.ok (.atom rfl) (fun w => by simp only [Builtin.len_, h1, h2, Sem.run_bind, under_run hu, Result.andThen_ok]; rfl)
  · trivial
theorem builtin_does (hw : WF H) (hr : HR A β H w) {R : Regs} {a : Act} (h : RR β R a.tmps) (c : Call) (b : Builtin) (hc : c.callee = .builtin b) (t : TypeId) (hA : b = .append → ∀ i, memN H.ban i = false → A i) :
    Does P A β H w (do let d ← resolve a.eval c t; invoke d.target d.args) (builtinS P H b c.argTypes.toList t (mapL (evS R) c.args.toList)) := by
  have ha := args_VL h c.args
  have run : ∀ {s : Sem Next}, (builtin b c.argTypes t (c.args.map fun | .const _ => true | _ => false) (c.args.map a.eval) = s) → (do let d ← resolve a.eval c t; invoke d.target d.args : Sem Next) = s := by
    intro s e
    rw [← e]
    simp only [resolve, hc, pure_bind, invoke]
    rfl
  have hm : (c.args.map a.eval) = ((c.args.map a.eval).toList).toArray := (Array.toArray_toList).symm
  have hts : c.argTypes = c.argTypes.toList.toArray := (Array.toArray_toList).symm
  unfold builtinS
  split
  · rw [run rfl]
    show Does P A β H w (do pure (Next.value (← Builtin.append_ c.argTypes t (c.args.map a.eval)))) _
    cases hst : sameT c.argTypes.toList with
    | none => trivial
    | some t0 =>
      have : c.argTypes.toList = [t0.1, t0.2] := by
        unfold sameT at hst
        split at hst
        · rename_i t1 t2 e
          cases hst; exact e
        · cases hst
      rw [hts, this, hm]
      exact append_does hw hr (hA rfl) ha
  · rw [run rfl]
    show Does P A β H w (do pure (Next.value (← Builtin.len_ c.argTypes t (c.args.map a.eval)))) _
    rw [hm]
    exact (len_run ha).does hw hr
  · rw [run rfl]
    show Does P A β H w (do pure (Next.value (← Builtin.min_ c.argTypes t (c.args.map a.eval)))) _
    rw [hm]
    have := min_run (P := P) (H := H) (f := Builtin.min_) (ts := c.argTypes.toList) (t := t) ha 55 56
    rw [← hts] at this
    exact this.does hw hr
  · rw [run rfl]
    show Does P A β H w (do pure (Next.value (← Builtin.max_ c.argTypes t (c.args.map a.eval)))) _
    rw [hm]
    have := min_run (P := P) (H := H) (f := Builtin.max_) (ts := c.argTypes.toList) (t := t) ha 57 58
    rw [← hts] at this
    exact this.does hw hr
  · trivial
end
end Go.Proofs.YtmfjpdlegaimlaaGreatDoor
