/- The small machine's operations that look at no memory. Of no program. -/
import Derived.Test.YtkgbifbbpmdpgaaPSh2
import Derived.Laws.Slices
import Derived.Laws.Sem
import Derived.Laws.Entries
import Derived.Lib.Strings
set_option linter.unusedVariables false
set_option linter.unusedSimpArgs false
namespace Go.Proofs.Ytkgbifbbpmdpgaa.Sh

open Go.RowKit
section inv
variable {β : Bij} {y : Value}
theorem VR.int {k : IntKind} {n : Int} (h : VR β (.int k n) y) : y = .int k n := h.of_atom rfl
theorem VR.bool {b : Bool} (h : VR β (.bool b) y) : y = .bool b := h.of_atom rfl
theorem VR.string {s : ByteArray} (h : VR β (.string s) y) : y = .string s := h.of_atom rfl
theorem VR.ptr_inv {b off : Nat} {sp : Option Nat} (h : VR β (.pointer (some ⟨b, off, none⟩)) y) : ∃ k, β b = some k ∧ y = .pointer (some ⟨k.blk, off, none⟩) := by
 cases h with
 | atom h => cases h
 | ptr h => exact ⟨_, h, rfl⟩
theorem VR.slice_inv {a : Option Addr} {n m : Nat} (h : VR β (.slice a n m) y) :
  (a = none ∧ n = 0 ∧ y = .slice none 0 0) ∨ (n = 0 ∧ ∃ a' c, a = some ⟨0, 0, none⟩ ∧ y = .slice (some a') 0 c) ∨
    ∃ b off k c, a = some ⟨b, off, none⟩ ∧ β b = some k ∧ n ≤ c ∧ c ≤ 9223372036854775807 ∧ (off = 0 → c * k.size = k.cap) ∧ y = .slice (some ⟨k.blk, off, none⟩) n c := by
 cases h with
 | atom h =>
   left
   cases a with
   | some a => cases h
   | none =>
     cases n with
     | succ n => cases h
     | zero =>
       cases m with
       | succ m => cases h
       | zero => exact ⟨rfl, rfl, rfl⟩
 | slice h hn hc h0 => exact .inr (.inr ⟨_, _, _, _, rfl, h, hn, hc, h0, rfl⟩)
 | void a c => exact .inr (.inl ⟨rfl, a, c, rfl, rfl⟩)
theorem VR.slice_len {a : Option Addr} {n m : Nat} (h : VR β (.slice a n m) y) : ∃ a' c, y = .slice a' n c ∧ a'.isNone = a.isNone ∧ n ≤ c := by
 rcases h.slice_inv with ⟨rfl, rfl, rfl⟩ | ⟨rfl, a', c, rfl, rfl⟩ | ⟨b, off, k, c, rfl, _, hn, _, _, rfl⟩
 · exact ⟨none, 0, rfl, rfl, Nat.le_refl _⟩
 · exact ⟨some a', c, rfl, rfl, Nat.zero_le _⟩
 · exact ⟨_, c, rfl, rfl, hn⟩
theorem VR.agg_inv {xs : Array Value} (h : VR β (.agg xs) y) : ∃ ys, y = .agg ys ∧ VL β xs.toList ys.toList := by
 cases h with
 | atom h => cases h
 | agg hl h => exact ⟨_, rfl, hl, h⟩
theorem VR.tuple_inv {xs : Array Value} (h : VR β (.tuple xs) y) : ∃ ys, y = .tuple ys ∧ VL β xs.toList ys.toList := by
 cases h with
 | atom h => cases h
 | tuple hl h => exact ⟨_, rfl, hl, h⟩
theorem VR.func_inv {f : Fn} {xs xs' : Array Value} (h : VR β (.func f xs xs') y) : ∃ ys ys', y = .func f ys ys' ∧ VL β xs.toList ys.toList ∧ VL β xs'.toList ys'.toList := by
 cases h with
 | atom h => cases h
 | func hl h hl' h' => exact ⟨_, _, rfl, ⟨hl, h⟩, ⟨hl', h'⟩⟩
theorem VR.ptr_some {a : Option Addr} (h : VR β (.pointer a) y) : ∃ a', y = .pointer a' ∧ a'.isNone = a.isNone := by
 cases h with
 | atom h => exact ⟨a, rfl, rfl⟩
 | ptr h => exact ⟨_, rfl, rfl⟩
end inv
theorem quick_run {P : Program} {α : Type} : ∀ {s : Sem α} {v : α}, quick P s = some v → ∀ w, s.run P w = .ok v w := by
 intro s
 induction s with
 | pure a => intro v h w; cases h; rfl
 | program k ih => intro v h w; exact ih P h w
 | _ => intro v h; cases h
def Pure (P : Program) (β : Bij) (H : Hp) (s : Sem Value) : Nx → Prop
 | .val v H' => H' = H ∧ ∃ v', VR β v v' ∧ ∀ w, s.run P w = .ok v' w
 | .bad _ => True
 | _ => False
theorem Pure.ok {P : Program} {β : Bij} {H : Hp} {s : Sem Value} {v v' : Value} (hv : VR β v v') (h : ∀ w, s.run P w = .ok v' w) : Pure P β H s (.val v H) := ⟨rfl, v', hv, h⟩
theorem Pure.of {P : Program} {β : Bij} {H : Hp} {s : Sem Value} {n : Nat} {q : Option Value} (h : ∀ v, q = some v → ∃ v', VR β v v' ∧ ∀ w, s.run P w = .ok v' w) : Pure P β H s (Nx.of n H q) := by
 cases q with
 | none => trivial
 | some v => exact ⟨rfl, h v rfl⟩
section
variable {P : Program} {β : Bij} {H : Hp}
theorem under_run {t : TypeId} {d : TypeDesc} (h : P.underlying t = some d) (w : World) : (underlying t).run P w = .ok d w := run_underlying h w
theorem info_run {t : TypeId} {i : TypeInfo} (h : P.info? t = some i) (w : World) : (typeInfo t).run P w = .ok i w := by simp [typeInfo, h]
theorem size_run {t : TypeId} {n : Nat} (h : sizeN P t = some n) (w : World) : (sizeOf t).run P w = .ok n w := by
 unfold sizeN at h
 cases e : P.info? t with
 | none => rw [e] at h; cases h
 | some i => rw [e] at h; cases h; simp [sizeOf, info_run e]
theorem sliceE_eq {t e : TypeId} (h : sliceE P t = some e) : P.underlying t = some (.slice e) := by
 unfold sliceE at h; split at h
 · rename_i h'; cases h; exact h'
 · cases h
theorem arrayE_eq {t e : TypeId} {n : Nat} (h : arrayE P t = some (n, e)) : P.underlying t = some (.array n e) := by
 unfold arrayE at h; split at h
 · rename_i h'; cases h; exact h'
 · cases h
theorem agg_run {t : TypeId} {n : Nat} (h : aggN P t = some (some n)) (w : World) : (isAgg t).run P w = .ok true w ∧ (sizeOf t).run P w = .ok n w := by
 unfold aggN at h
 split at h
 · rename_i fs hu
   split at h
   · rename_i i hi; cases h; exact ⟨by simp [isAgg, under_run hu], by simp [sizeOf, info_run hi]⟩
   · cases h
 · rename_i m e hu
   split at h
   · rename_i i hi; cases h; exact ⟨by simp [isAgg, under_run hu], by simp [sizeOf, info_run hi]⟩
   · cases h
 · cases h
 · cases h
theorem notAgg_run {t : TypeId} (h : aggN P t = some none) (w : World) : (isAgg t).run P w = .ok false w := by
 unfold aggN at h
 split at h
 · split at h <;> cases h
 · split at h <;> cases h
 · rename_i d h1 h2 hu
   have hu' := under_run (P := P) hu w
   unfold isAgg
   simp only [Sem.run_bind, hu', Result.andThen_ok]
   rfl
 · cases h
theorem field_eq {t : TypeId} {f : Nat} {fd : Field} (h : fieldOf P t f = some fd) : ∃ fs, P.underlying t = some (.struct fs) ∧ fs[f]? = some fd := by
 unfold fieldOf fieldsS at h
 split at h
 · rename_i fs hu
   rw [Option.bind_some, nth_eq] at h
   exact ⟨fs, hu, by simpa using h⟩
 · cases h
theorem part_run {t : TypeId} {cs cs' : Array Value} {off : Nat} (hl : VL β cs.toList cs'.toList) : Pure P β H (part t cs' off) (partS P H t cs.toList off) := by
 unfold partS
 split
 · rename_i n hn
   cases hb : Nat.beq (lenL (takeN n (dropN off cs.toList))) n with
   | false => trivial
   | true =>
     have h1 := of_beq hb
     rw [lenL_eq, takeN_eq, dropN_eq] at h1
     refine Pure.ok (v' := .agg (cs'.extract off (off + n))) ?_ ?_
     · rw [takeN_eq, dropN_eq]
       have hv := (hl.drop off).take n
       refine .agg ?_ ?_
       · have e : (cs'.extract off (off + n)).toList = (cs'.toList.drop off).take n := by simp [Array.toList_extract, List.extract_eq_take_drop]
         rw [e]; simpa using hv.1
       · have e : (cs'.extract off (off + n)).toList = (cs'.toList.drop off).take n := by simp [Array.toList_extract, List.extract_eq_take_drop]
         rw [e]; simpa using hv.2
     · intro w
       obtain ⟨h3, h4⟩ := agg_run hn w
       simp [part, h3, h4]
 · rename_i hn
   split
   · rename_i v hv
     rw [nth_eq] at hv
     obtain ⟨y, hy, hr⟩ := hl.get hv
     refine Pure.ok hr (fun w => ?_)
     have h3 := notAgg_run hn w
     have hy' : cs'[off]? = some y := by simpa using hy
     simp [part, h3, hy']
   · trivial
 · trivial
theorem field_run {t : TypeId} {x y : Value} {f : Nat} (h : VR β x y) : Pure P β H (Instr.field t y f) (fieldS P H t f x) := by
 unfold fieldS
 split
 · rename_i cs
   obtain ⟨ys, rfl, hl⟩ := h.agg_inv
   split
   · rename_i fd hf
     obtain ⟨fs, hu, hfs⟩ := field_eq hf
     have hp := part_run (P := P) (H := H) (t := fd.type) (off := fd.offset) hl
     revert hp
     generalize partS P H fd.type cs.toList fd.offset = r
     intro hp
     cases r with
     | val v H' =>
       obtain ⟨rfl, v', hv, hr⟩ := hp
       exact ⟨rfl, v', hv, fun w => by simp [Instr.field, under_run hu, hfs, asAgg, hr]⟩
     | bad n => trivial
     | _ => exact hp
   · trivial
 · trivial
theorem fieldAddr_run {t : TypeId} {x y : Value} {f : Nat} (h : VR β x y) : Pure P β H (Instr.fieldAt t y f) (fieldAddrS P H t f x) := by
 unfold fieldAddrS
 split
 · rename_i b off
   obtain ⟨k, hk, rfl⟩ := h.ptr_inv (sp := none)
   split
   · rename_i fd hf
     obtain ⟨fs, hu, hfs⟩ := field_eq hf
     split
     · rename_i n hn
       cases hb : Nat.ble 1 n with
       | false => trivial
       | true =>
         have hb' := of_ble hb
         refine Pure.ok (VR.ptr hk) (fun w => ?_)
         have hz := size_run hn w
         have h0 : ¬ n = 0 := by omega
         simp only [Instr.fieldAt, Sem.run_bind, under_run hu, Result.andThen_ok, hfs, Instr.sureAddr, Sem.run_pure, fieldPlace, hz, h0, if_false]
         have e : Addr.add ⟨k.blk, off, none⟩ fd.offset = ⟨k.blk, off + fd.offset, none⟩ := by unfold Addr.add; split <;> simp_all
         rw [e]; rfl
     · trivial
   · trivial
 · trivial
theorem asNat_eq {x : Value} {k : Nat} (h : asNat x = some k) : ∃ kd, x = .int kd (Int.ofNat k) := by
 unfold asNat at h
 split at h
 · rename_i kd n
   unfold natI at h
   split at h
   · cases h; exact ⟨kd, rfl⟩
   · cases h
 · cases h
theorem add_addr (b off n : Nat) : Addr.add ⟨b, off, none⟩ n = ⟨b, off + n, none⟩ := by unfold Addr.add; split <;> simp_all
theorem indexAddr_run {t : TypeId} {x y ix iy : Value} (h : VR β x y) (hi : VR β ix iy) : Pure P β H (Instr.indexAt t y iy) (indexAddrS P H t x ix) := by
 unfold indexAddrS
 split
 · rename_i n hn
   obtain ⟨kd, rfl⟩ := asNat_eq hn
   obtain rfl := hi.int
   unfold indexAddrK
   split
   · rename_i b off m c0
     split
     · rename_i size hs
       obtain ⟨e, he, hs⟩ := Option.bind_eq_some_iff.1 hs
       have hu := sliceE_eq he
       cases hb : Nat.ble (Nat.succ n) m with
       | false => trivial
       | true =>
         have hb' : n < m := of_ble hb
         rcases h.slice_inv with ⟨h1, _⟩ | ⟨h1, _⟩ | ⟨b', off', k, c, h1, hk, hnc, hc, h0, rfl⟩
         · cases h1
         · omega
         · cases h1
           refine Pure.ok (VR.ptr hk) (fun w => ?_)
           have hz := size_run hs w
           have h5 : (n : Int) < (m : Int) := by omega
           have h6 : (0 : Int) ≤ (n : Int) := by omega
           simp [Instr.indexAt, under_run hu, asIntOf, h5, h6, hz, add_addr]
           intro h; omega
     · trivial
   · rename_i b off
     obtain ⟨k, hk, rfl⟩ := h.ptr_inv (sp := none)
     split
     · rename_i m e he
       have hu := arrayE_eq he
       split
       · rename_i size hs
         cases hb : Nat.ble (Nat.succ n) m with
         | false => trivial
         | true =>
           have hb' : n < m := of_ble hb
           refine Pure.ok (VR.ptr hk) (fun w => ?_)
           have hz := size_run hs w
           have h5 : (n : Int) < (m : Int) := by omega
           have h6 : (0 : Int) ≤ (n : Int) := by omega
           simp [Instr.indexAt, under_run hu, asIntOf, h5, h6, hz, add_addr, Instr.sureAddr]
           intro h; omega
       · trivial
     · trivial
   · trivial
 · trivial
theorem extract_run {x y : Value} {k : Nat} (h : VR β x y) : Pure P β H (Instr.extract y k) (extractS H k x) := by
 unfold extractS
 split
 · rename_i vs
   obtain ⟨ys, rfl, hl⟩ := h.tuple_inv
   refine Pure.of (fun v hv => ?_)
   rw [nth_eq] at hv
   obtain ⟨u, hu, hr⟩ := hl.get hv
   have hu' : ys[k]? = some u := by simpa using hu
   exact ⟨u, hr, fun w => by simp [Instr.extract, hu']⟩
 · trivial
theorem quick_flat {s : Sem Value} {n : Nat} : Pure P β H s (Nx.qf n H (quick P s)) := by
 cases h : quick P s with
 | none => trivial
 | some v =>
   show Pure P β H s (cond (flatV v) (.val v H) (.bad n))
   cases hf : flatV v with
   | false => trivial
   | true => exact Pure.ok (.flat hf) (quick_run h)
theorem wrap_small {n : Nat} (h : n ≤ 9223372036854775807) : IntKind.i64.wrap (n : Int) = n := by
 simp [IntKind.wrap, IntKind.bits, IntKind.signed]; omega
theorem wrap_u64 {n : Nat} (h : n ≤ 18446744073709551615) : IntKind.u64.wrap (n : Int) = n := by
 simp [IntKind.wrap, IntKind.bits, IntKind.signed]; omega
theorem wrap_u8 {n : Nat} (h : n ≤ 255) : IntKind.u8.wrap (n : Int) = n := by
 simp [IntKind.wrap, IntKind.bits, IntKind.signed]; omega
theorem forceN_eq {α : Type} (n : Nat) (k : Nat → α) : forceN n k = k n := by cases n <;> rfl
theorem smallK_eq {k : IntKind} {n : Nat} (h : smallK k n = true) : k.wrap (n : Int) = n := by
 cases k <;> first | cases h | exact wrap_small (of_ble h) | exact wrap_u64 (of_ble h) | exact wrap_u8 (of_ble h)
theorem addK_eq (k : IntKind) (a b : Int) : addK k a b = .int k (k.wrap (a + b)) := by
 unfold addK
 split
 · rename_i x y
   rw [forceN_eq]
   cases h : smallK k (Nat.add x y) with
   | false => rfl
   | true =>
     have := smallK_eq h
     show Value.int k (Int.ofNat (x + y)) = _
     rw [show (Int.ofNat x + Int.ofNat y : Int) = ((x + y : Nat) : Int) from rfl, show ((x + y : Nat) : Int) = ((Nat.add x y : Nat) : Int) from rfl, this]; rfl
 · rfl
theorem subK_eq (k : IntKind) (a b : Int) : subK k a b = .int k (k.wrap (a - b)) := by
 unfold subK
 split
 · rename_i x y
   cases h : (Nat.ble y x && smallK k x) with
   | false => rfl
   | true =>
     obtain ⟨h1, h2⟩ := and_split h
     have h1 := of_ble h1
     have h3 : smallK k (x - y) = true := by
      cases k <;> first | cases h2 | (have := of_ble h2; exact Nat.ble_eq_true_of_le (by omega))
     have := smallK_eq h3
     show forceN (Nat.sub x y) (fun n => Value.int k (.ofNat n)) = _
     rw [forceN_eq]
     have e : (Int.ofNat x - Int.ofNat y : Int) = ((x - y : Nat) : Int) := by simp; omega
     rw [e, this]; rfl
 · rfl
theorem mulK_eq (k : IntKind) (a b : Int) : mulK k a b = .int k (k.wrap (a * b)) := by
 unfold mulK
 split
 · rename_i x y
   rw [forceN_eq]
   cases h : smallK k (Nat.mul x y) with
   | false => rfl
   | true =>
     have := smallK_eq h
     have e : (Int.ofNat x * Int.ofNat y : Int) = ((Nat.mul x y : Nat) : Int) := by simp
     rw [e, this]; rfl
 · rfl
theorem quoK_eq (k : IntKind) (a b : Int) : quoK k a b = .int k (k.wrap (a.tdiv b)) := by
 unfold quoK
 split
 · rename_i x y
   cases h : smallK k x with
   | false => rfl
   | true =>
     have h3 : smallK k (x / y) = true := by
      have := Nat.div_le_self x y
      cases k <;> first | cases h | (have h' := of_ble h; exact Nat.ble_eq_true_of_le (by omega))
     have := smallK_eq h3
     show forceN (Nat.div x y) (fun n => Value.int k (.ofNat n)) = _
     rw [forceN_eq]
     have e : (Int.ofNat x).tdiv (Int.ofNat y) = ((x / y : Nat) : Int) := rfl
     rw [e, this]; rfl
 · rfl
theorem remK_eq (k : IntKind) (a b : Int) : remK k a b = .int k (a.tmod b) := by
 unfold remK
 split
 · rename_i x y
   rw [forceN_eq]; rfl
 · rfl
theorem leI_eq (a b : Int) : leI a b = decide (a ≤ b) := by
 unfold leI
 split
 · rename_i x y
   by_cases h : x ≤ y
   · rw [Nat.ble_eq_true_of_le h]; symm; simpa using h
   · have : Nat.ble x y = false := by
      cases e : Nat.ble x y with
      | false => rfl
      | true => exact absurd (of_ble e) h
     rw [this]; symm; simpa using h
 · rfl
theorem eqI_eq (a b : Int) : eqI a b = decide (a = b) := by
 unfold eqI
 split
 · rename_i x y
   by_cases h : x = y
   · rw [beq_t h]; subst h; simp
   · rw [beq_f h]; symm; apply decide_eq_false; intro e; exact h (Int.ofNat.inj e)
 · rfl
theorem intS_run {op : BinOp} {k : IntKind} {a b : Int} {v : Value} (h : intS op k a b = some v) (t : TypeId) (x y : Operand) (w : World) :
  (do eqGuard op t x y (.int k a) (.int k b); binOp op t (.int k a) (.int k b) : Sem Value).run P w = .ok v w := by
 rw [eqGuard_at_int]
 cases op <;> simp only [intS] at h
 case add => cases h; simp [addK_eq, binOp, Op.intArith]
 case sub => cases h; simp [subK_eq, binOp, Op.intArith]
 case mul => cases h; simp [mulK_eq, binOp, Op.intArith]
 case quo =>
  rw [eqI_eq] at h
  by_cases hb : b = 0
  · simp [hb, cond_t] at h
  · simp [hb, cond_f] at h; subst h; rw [quoK_eq]; simp [binOp, Op.intDiv, hb]
 case rem =>
  rw [eqI_eq] at h
  by_cases hb : b = 0
  · simp [hb, cond_t] at h
  · simp [hb, cond_f] at h; subst h; rw [remK_eq]; simp [binOp, Op.intDiv, hb]
 case eql => cases h; rw [eqI_eq]; simp [binOp, Op.intCmp]; rfl
 case neq => cases h; rw [eqI_eq]; simp [binOp, Op.intCmp]; rfl
 case lss => cases h; rw [leI_eq]; simp [binOp, Op.intCmp]; by_cases hab : a < b <;> simp [hab] <;> omega
 case leq => cases h; rw [leI_eq]; simp [binOp, Op.intCmp]
 case gtr => cases h; rw [leI_eq]; simp [binOp, Op.intCmp]; by_cases hab : b < a <;> simp [hab] <;> omega
 case geq => cases h; rw [leI_eq]; simp [binOp, Op.intCmp]
 all_goals cases h
theorem kindB_eq {k k' : IntKind} (h : kindB k k' = true) : k' = k := by cases k <;> cases k' <;> first | rfl | cases h
theorem binF_run {op : BinOp} {t : TypeId} {x y : Operand} {vx vy ux uy : Value} (hx : VR β vx ux) (hy : VR β vy uy) :
  Pure P β H (do eqGuard op t x y ux uy; binOp op t ux uy : Sem Value) (binF P H op t x y vx vy) := by
 unfold binF
 cases h : (flatV vx && flatV vy) with
 | false => trivial
 | true =>
   obtain ⟨h1, h2⟩ := and_split h
   rw [hx.of_flat h1, hy.of_flat h2]
   exact quick_flat
theorem slice_eql {t e : TypeId} (hu : P.underlying t = some (.slice e)) (a b : Option Addr) (n c m d : Nat) (h : a.isNone = true ∨ b.isNone = true) (w : World) :
  (Op.equal t (.slice a n c) (.slice b m d)).run P w = .ok (a.isNone && b.isNone) w := by
 unfold Op.equal
 rw [show Op.maxDepth = 9999 + 1 from rfl, Op.equalIn]
 simp only [Sem.run_bind, under_run hu, Result.andThen_ok]
 cases a <;> cases b <;> simp_all
theorem ptr_eql {t e : TypeId} (hu : P.underlying t = some (.pointer e)) (a b : Option Addr) (h : a.isNone = true ∨ b.isNone = true) (w : World) :
  (Op.equal t (.pointer a) (.pointer b)).run P w = .ok (a.isNone && b.isNone) w := by
 unfold Op.equal
 rw [show Op.maxDepth = 9999 + 1 from rfl, Op.equalIn]
 simp only [Sem.run_bind, under_run hu, Result.andThen_ok]
 cases a <;> cases b <;> simp_all
theorem VR.map_some {a : Option Nat} {y : Value} (h : VR β (.map a) y) : ∃ a', y = .map a' ∧ a'.isNone = a.isNone := by
 cases h with
 | atom h => exact ⟨_, rfl, rfl⟩
 | map h => exact ⟨_, rfl, rfl⟩
theorem map_eql {t kt et : TypeId} (hu : P.underlying t = some (.map kt et)) (a b : Option Nat) (h : a.isNone = true ∨ b.isNone = true) (w : World) :
  (Op.equal t (.map a) (.map b)).run P w = .ok (a.isNone && b.isNone) w := by
 unfold Op.equal
 rw [show Op.maxDepth = 9999 + 1 from rfl, Op.equalIn]
 simp only [Sem.run_bind, under_run hu, Result.andThen_ok]
 cases a <;> cases b <;> simp_all
theorem nilOp_run {op : BinOp} {t : TypeId} {x y : Operand} {u v : Value} {ok a b : Bool} (hg : eqGuard op t x y u v = pure ()) (hb : ∀ op', binOp op' t u v = match op' with | .eql => (do pure (.bool (← Op.equal t u v))) | .neq => (do pure (.bool (!(← Op.equal t u v)))) | _ => binOp op' t u v)
  (h : ok = true → (a = true ∨ b = true) → ∀ w, (Op.equal t u v).run P w = .ok (a && b) w) :
  Pure P β H (do eqGuard op t x y u v; binOp op t u v : Sem Value) (nilOp H op ok a b) := by
 rw [hg]
 unfold nilOp
 split
 · cases hc : (ok && (a || b)) with
   | false => trivial
   | true =>
     obtain ⟨h1, h2⟩ := and_split hc
     have h3 := h h1 (by simpa using h2)
     have hb' := hb .eql
     simp only at hb'
     exact Pure.ok (v' := .bool (a && b)) (.atom rfl) (fun w => by simp [hb', h3 w])
 · cases hc : (ok && (a || b)) with
   | false => trivial
   | true =>
     obtain ⟨h1, h2⟩ := and_split hc
     have h3 := h h1 (by simpa using h2)
     have hb' := hb .neq
     simp only at hb'
     exact Pure.ok (v' := .bool (!(a && b))) (.atom rfl) (fun w => by simp [hb', h3 w])
 · trivial
theorem u8_toNat {x y : UInt8} (h : x.toNat = y.toNat) : x = y := UInt8.toNat_inj.1 h
theorem eqL_eq : ∀ (l m : List UInt8), eqL l m = (l == m)
 | [], [] => rfl
 | [], y :: r => rfl
 | x :: l, [] => rfl
 | x :: l, y :: m => by
   show cond (Nat.beq x.toNat y.toNat) (eqL l m) false = _
   by_cases h : x = y
   · subst h; rw [beq_t rfl, cond_t, eqL_eq l m]; simp
   · rw [beq_f (fun e => h (u8_toNat e)), cond_f]; symm; simp [h]
theorem cat_text (a b : ByteArray) : (⟨(catL a.data.toList b.data.toList).toArray⟩ : ByteArray) = a ++ b := by
 apply ByteArray.ext
 apply Array.toList_inj.1
 rw [ByteArray.data_append, Array.toList_append, catL_eq]
theorem binT_run {op : BinOp} {t : TypeId} {x y : Operand} {a : ByteArray} {vy uy : Value} (hy : VR β vy uy) :
  Pure P β H (do eqGuard op t x y (.string a) uy; binOp op t (.string a) uy : Sem Value) (binT P H op t x y a vy) := by
 unfold binT
 split
 · rename_i b
   obtain rfl := hy.string
   split
   · refine Pure.ok (v' := .bool (eqL a.data.toList b.data.toList)) (.atom rfl) (fun w => ?_)
     rw [eqGuard_at_string, eqL_eq]
     simp [binOp, Op.stringOp, Lib.toList_data]
   · refine Pure.ok (v' := .bool (!(eqL a.data.toList b.data.toList))) (.atom rfl) (fun w => ?_)
     rw [eqGuard_at_string, eqL_eq]
     simp [binOp, Op.stringOp, Lib.toList_data]
   · cases hc : Nat.ble (Nat.add a.size b.size) 1000000000 with
     | false => trivial
     | true =>
       have hc : a.size + b.size ≤ 1000000000 := of_ble hc
       refine Pure.ok (v' := .string ⟨(catL a.data.toList b.data.toList).toArray⟩) (.atom rfl) (fun w => ?_)
       rw [eqGuard_at_string, cat_text]
       have h1 : ¬ ((a.size + b.size : Nat) : Int) > IntKind.i64.max := by
        have : IntKind.i64.max = 9223372036854775807 := by decide
        rw [this]; omega
       have h2 : ¬ (IntKind.i64.max < (a.size : Int) + (b.size : Int)) := by
        have : IntKind.i64.max = 9223372036854775807 := by decide
        rw [this]; omega
       simp [binOp, Op.stringOp]
       omega
   · exact binF_run (.atom rfl) (.atom rfl)
 · exact binF_run (.atom rfl) hy
theorem binS_run {op : BinOp} {t : TypeId} {x y : Operand} {vx vy ux uy : Value} (hx : VR β vx ux) (hy : VR β vy uy) :
  Pure P β H (do eqGuard op t x y ux uy; binOp op t ux uy : Sem Value) (binS P H op t x y vx vy) := by
 unfold binS
 split
 · rename_i k a
   obtain rfl := hx.int
   unfold binI
   split
   · rename_i k' b
     obtain rfl := hy.int
     split
     · rename_i v hv
       cases hk : kindB k k' with
       | false => trivial
       | true =>
         obtain rfl := kindB_eq hk
         have hf : flatV v = true := by
          cases op <;> simp only [intS, addK_eq, subK_eq, mulK_eq, quoK_eq, remK_eq] at hv <;> first | (cases hv; rfl) | cases hv | skip
          all_goals
           cases he : eqI b 0 with
           | true => rw [he] at hv; cases hv
           | false => rw [he] at hv; cases hv; rfl
         exact Pure.ok (.flat hf) (fun w => intS_run hv t x y w)
     · exact binF_run (.atom rfl) (.atom rfl)
   · exact binF_run (.atom rfl) hy
 · rename_i a n c
   unfold binL
   split
   · rename_i b m d
     obtain ⟨a', c', rfl, ha, _⟩ := hx.slice_len
     obtain ⟨b', d', rfl, hb, _⟩ := hy.slice_len
     rw [← ha, ← hb]
     refine nilOp_run (eqGuard_at_slice ..) (fun op' => by cases op' <;> simp [binOp]) (fun h1 h2 w => ?_)
     obtain ⟨e, he⟩ := Option.isSome_iff_exists.1 h1
     exact slice_eql (sliceE_eq he) a' b' n c' m d' h2 w
   · trivial
 · rename_i a
   unfold binP
   split
   · rename_i b
     obtain ⟨a', rfl, ha⟩ := hx.ptr_some
     obtain ⟨b', rfl, hb⟩ := hy.ptr_some
     rw [← ha, ← hb]
     refine nilOp_run (eqGuard_at_pointer ..) (fun op' => by cases op' <;> simp [binOp]) (fun h1 h2 w => ?_)
     unfold ptrT at h1
     split at h1
     · rename_i e hu; exact ptr_eql hu a' b' h2 w
     · cases h1
   · trivial
 · rename_i a
   unfold binM
   split
   · rename_i b
     obtain ⟨a', rfl, ha⟩ := hx.map_some
     obtain ⟨b', rfl, hb⟩ := hy.map_some
     rw [← ha, ← hb]
     refine nilOp_run (eqGuard_at_map ..) (fun op' => by cases op' <;> simp [binOp]) (fun h1 h2 w => ?_)
     unfold mapT at h1
     split at h1
     · rename_i kt et hu; exact map_eql hu a' b' h2 w
     · cases h1
   · trivial
 · rename_i a
   obtain rfl := hx.string
   exact binT_run hy
 · exact binF_run hx hy
theorem index_run {t : TypeId} {x y ix iy : Value} (h : VR β x y) (hi : VR β ix iy) : Pure P β H (Instr.index t y iy) (indexS P H t ix x) := by
 unfold indexS
 split
 · rename_i s
   obtain rfl := h.string
   split
   · rename_i n hn hu
     obtain ⟨kd, rfl⟩ := asNat_eq hn
     obtain rfl := hi.int
     split
     · rename_i b hb
       rw [nth_eq] at hb
       refine Pure.ok (.atom rfl) (fun w => ?_)
       have hb' : s[n]? = some b := by
        have hl : n < s.data.toList.length := (List.getElem?_eq_some_iff.1 hb).1
        have hl' : n < s.size := by simpa using hl
        rw [getElem?_pos s n hl']
        have := (List.getElem?_eq_some_iff.1 hb).2
        rw [← this]; rfl
       simp [Instr.index, asIntOf, under_run hu, hb']
     · trivial
   · trivial
 · trivial
theorem pick_run {x y a a' b b' : Value} (h : VR β x y) (ha : VR β a a') (hb : VR β b b') : Pure P β H (do pure (if ← asBool y then a' else b') : Sem Value) (pickS H a b x) := by
 unfold pickS
 split
 · rename_i t
   obtain rfl := h.bool
   cases t with
   | true => exact Pure.ok ha (fun w => by simp [asBool])
   | false => exact Pure.ok hb (fun w => by simp [asBool])
 · trivial
theorem un_run {op : UnOp} {x y : Value} (h : VR β x y) : Pure P β H (Op.unary op y) (unS P H op x) := by
 unfold unS
 split
 · obtain rfl := h.bool; exact quick_flat
 · obtain rfl := h.int; exact quick_flat
 · trivial
theorem optN_eq {d : Nat} {o : Option Value} {n : Nat} (h : optN d o = some n) : (o = none ∧ n = d) ∨ ∃ kd, o = some (.int kd (Int.ofNat n)) := by
 cases o with
 | none => left; exact ⟨rfl, by simpa [optN] using h.symm⟩
 | some v => right; obtain ⟨kd, e⟩ := asNat_eq (show asNat v = some n from h); exact ⟨kd, by rw [e]⟩
def OR (β : Bij) : Option Value → Option Value → Prop
 | none, none => True
 | some x, some y => VR β x y
 | _, _ => False
theorem bound_run (kd : IntKind) (n m : Nat) (code : BoundsCode) (h : n ≤ m) (w : World) : (Instr.sliceBound (.int kd (Int.ofNat n)) m code).run P w = .ok n w := by
 have h1 : (n : Int) ≤ (m : Int) := by omega
 simp [Instr.sliceBound, asIntOf, h1]
theorem bounds_run {isSlice : Bool} {n c l h : Nat} {lo hi lo' hi' : Option Value} (hl : optN 0 lo = some l) (hh : optN n hi = some h) (h1 : h ≤ n) (h2 : l ≤ h) (hnc : n ≤ c) (rl : OR β lo lo') (rh : OR β hi hi') (w : World) :
  (Instr.sliceBounds isSlice n c lo' hi' none).run P w = .ok (l, h, c) w := by
 have eh : (match hi' with | some v => Instr.sliceBound v c (if isSlice = true then .sliceAcap else .sliceAlen) | none => pure n : Sem Nat).run P w = .ok h w := by
  rcases optN_eq hh with ⟨rfl, rfl⟩ | ⟨kd, rfl⟩
  · cases hi' with
    | none => rfl
    | some v => exact rh.elim
  · cases hi' with
    | none => exact rh.elim
    | some v =>
      obtain rfl := VR.int (show VR β _ v from rh)
      exact bound_run kd h c _ (by omega) w
 have el : (match lo' with | some v => Instr.sliceBound v h .sliceB | none => pure 0 : Sem Nat).run P w = .ok l w := by
  rcases optN_eq hl with ⟨rfl, rfl⟩ | ⟨kd, rfl⟩
  · cases lo' with
    | none => rfl
    | some v => exact rl.elim
  · cases lo' with
    | none => exact rl.elim
    | some v =>
      obtain rfl := VR.int (show VR β _ v from rl)
      exact bound_run kd l h _ h2 w
 unfold Instr.sliceBounds
 cases hi' with
 | none =>
   have eh' : n = h := by simpa using eh
   subst eh'
   simp only [Sem.run_bind, Sem.run_pure, Result.andThen_ok, Option.isSome_none, Bool.false_eq_true, if_false]
   cases lo' with
   | none => simp at el; subst el; simp
   | some v => simp only at el; simp only [Sem.run_bind, el, Result.andThen_ok, Sem.run_pure]
 | some v =>
   simp only at eh
   simp only [Sem.run_bind, Sem.run_pure, Result.andThen_ok, Option.isSome_none, Bool.false_eq_true, if_false]
   rw [eh]
   simp only [Result.andThen_ok]
   cases lo' with
   | none => simp at el; subst el; simp
   | some v => simp only at el; simp only [Sem.run_bind, el, Result.andThen_ok, Sem.run_pure]
theorem slice_run {t : TypeId} {x y : Value} {lo hi lo' hi' : Option Value} (h : VR β x y) (rl : OR β lo lo') (rh : OR β hi hi') : Pure P β H (Instr.sliceAt t y lo' hi' none) (sliceV P H t lo hi x) := by
 unfold sliceV
 split
 · rename_i a n c0
   unfold sliceS
   split
   · rename_i size hn l hs hh hl
     obtain ⟨e, he, hs⟩ := Option.bind_eq_some_iff.1 hs
     have hu := sliceE_eq he
     cases hc : (Nat.ble hn n && (Nat.ble l hn && Nat.ble 1 size)) with
     | false => trivial
     | true =>
       obtain ⟨h1, h2⟩ := and_split hc
       obtain ⟨h2, h3⟩ := and_split h2
       have h1 := of_ble h1
       have h2 := of_ble h2
       have h3 := of_ble h3
       have run : ∀ a' c', n ≤ c' → ∀ w, (Instr.sliceAt t (.slice a' n c') lo' hi' none).run P w = .ok (.slice (if c' = l then a' else a'.map (·.add (l * size))) (hn - l) (c' - l)) w := by
        intro a' c' hc' w
        have hz := size_run hs w
        simp [Instr.sliceAt, under_run hu, Instr.slice, bounds_run (P := P) (isSlice := true) hl hh h1 h2 hc' rl rh w, hz]
       show Pure P β H _ (sliceA H size hn l a)
       rcases h.slice_inv with ⟨rfl, rfl, rfl⟩ | ⟨rfl, a', c', rfl, rfl⟩ | ⟨b, off, k, c', rfl, hk, hnc, hcm, h0, rfl⟩
       · unfold sliceA
         obtain rfl : hn = 0 := by omega
         obtain rfl : l = 0 := by omega
         exact Pure.ok (v' := .slice none 0 0) (.atom rfl) (fun w => by rw [run none 0 (Nat.le_refl _) w]; simp)
       · unfold sliceA
         obtain rfl : hn = 0 := by omega
         obtain rfl : l = 0 := by omega
         refine Pure.ok (v' := .slice (if c' = 0 then some a' else (some a').map (·.add (0 * size))) (0 - 0) (c' - 0)) ?_ (fun w => run (some a') c' (Nat.zero_le _) w)
         have : ∃ a2, (if c' = 0 then some a' else (some a').map (·.add (0 * size))) = some a2 := by split <;> simp
         obtain ⟨a2, e2⟩ := this
         rw [e2]; exact .void a2 _
       · unfold sliceA
         by_cases hlh : hn = l
         · subst hlh
           show Pure P β H _ (cond (Nat.beq hn hn) _ _)
           rw [beq_t rfl]
           show Pure P β H _ (cond (Nat.beq hn 0) _ _)
           cases hz0 : Nat.beq hn 0 with
           | true =>
             obtain rfl := of_beq hz0
             refine Pure.ok (v' := .slice (some ⟨k.blk, off, none⟩) 0 c') (.slice hk (Nat.zero_le _) hcm h0) (fun w => by rw [run _ c' hnc w]; simp [add_addr])
           | false =>
           refine Pure.ok (v' := .slice (if c' = hn then some ⟨k.blk, off, none⟩ else (some (⟨k.blk, off, none⟩ : Addr)).map (·.add (hn * size))) (hn - hn) (c' - hn)) ?_ (fun w => run _ c' hnc w)
           have : ∃ a2, (if c' = hn then some (⟨k.blk, off, none⟩ : Addr) else (some (⟨k.blk, off, none⟩ : Addr)).map (·.add (hn * size))) = some a2 := by split <;> simp
           obtain ⟨a2, e2⟩ := this
           rw [e2, Nat.sub_self]; exact .void a2 _
         · show Pure P β H _ (cond (Nat.beq hn l) _ _)
           rw [beq_f hlh]
           refine Pure.ok (v' := .slice (some ⟨k.blk, off + l * size, none⟩) (hn - l) (c' - l)) ?_ (fun w => ?_)
           · refine .slice hk (show hn - l ≤ c' - l by omega) (by omega) (fun h5' => ?_)
             have h5 : off + l * size = 0 := h5'
             clear h5'
             have h6 : off = 0 := by omega
             have h7 : l * size = 0 := by omega
             have h8 : l = 0 := by
              rcases Nat.eq_zero_or_pos l with h | h
              · exact h
              · have := Nat.mul_le_mul h h3; omega
             subst h8
             rw [Nat.sub_zero]; exact h0 h6
           · rw [run _ c' hnc w, if_neg (by omega)]
             simp [add_addr]
   · trivial
 · rename_i s
   obtain rfl := h.string
   split
   · rename_i l hn hl hh
     have el : lo' = lo := by
      rcases optN_eq hl with ⟨rfl, rfl⟩ | ⟨kd, rfl⟩
      · cases lo' with
        | none => rfl
        | some v => exact rl.elim
      · cases lo' with
        | none => exact rl.elim
        | some v => obtain rfl := VR.int (show VR β _ v from rl); rfl
     have eh : hi' = hi := by
      rcases optN_eq hh with ⟨rfl, rfl⟩ | ⟨kd, rfl⟩
      · cases hi' with
        | none => rfl
        | some v => exact rh.elim
      · cases hi' with
        | none => exact rh.elim
        | some v => obtain rfl := VR.int (show VR β _ v from rh); rfl
     cases hc : (strT P t && (Nat.ble l hn && Nat.ble hn s.size)) with
     | false => trivial
     | true =>
       obtain ⟨h1, h2⟩ := and_split hc
       obtain ⟨h2, h3⟩ := and_split h2
       have h1 := strT_eq h1
       have h2 := of_ble h2
       have h3 := of_ble h3
       refine Pure.ok (v' := .string ⟨(takeN (Nat.sub hn l) (dropN l s.data.toList)).toArray⟩) (.atom rfl) (fun w => ?_)
       have hb := bounds_run (P := P) (isSlice := false) hl hh h3 h2 (Nat.le_refl s.size) rl rh w
       have e : (⟨(takeN (Nat.sub hn l) (dropN l s.data.toList)).toArray⟩ : ByteArray) = s.extract l hn := by
        apply ByteArray.ext
        apply Array.toList_inj.1
        rw [Lib.extract_data, takeN_eq, dropN_eq]; rfl
       rw [e]
       simp [Instr.sliceAt, under_run h1, Instr.slice, hb]
   · trivial
 · trivial
end
end Go.Proofs.Ytkgbifbbpmdpgaa.Sh
