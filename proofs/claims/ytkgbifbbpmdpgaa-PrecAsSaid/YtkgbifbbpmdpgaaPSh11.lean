/- The small machine's operations: what each does. Of no program. -/
import Derived.Test.YtkgbifbbpmdpgaaPSh10
import Derived.MapKept
set_option linter.unusedVariables false
set_option linter.unusedSimpArgs false
namespace Go.Proofs.Ytkgbifbbpmdpgaa.Sh
section
open Go.RowKit
variable {bs : Inhabited Base}
section
variable {P : Program} {A : Nat → Prop} {β : Bij} {H : Hp} {w : World}
theorem bytesL_mem : ∀ (l : List Value) (bs : List UInt8), bytesL l = some bs → l = bs.map fun b => Value.int .u8 (b.toNat : Int)
 | [], bs, h => by cases h; rfl
 | x :: r, bs, h => by
   have h' : (match byteOf x, bytesL r with | some b, some l => some (b :: l) | _, _ => none) = some bs := h
   split at h'
   · rename_i b l hb hl
     cases h'
     have h1 := bytesL_mem r l hl
     unfold byteOf at hb
     split at hb
     · rename_i n
       rcases cond_split hb with ⟨h2, h3⟩ | ⟨_, h3⟩
       · cases h3
         obtain ⟨h2, h4⟩ := and_split h2
         simp only [List.map_cons, ← h1]
         congr 2
         have h2 : 0 ≤ n := by simpa [leI_eq] using h2
         have h4 : n ≤ 255 := by simpa [leI_eq] using h4
         have : (UInt8.ofNat n.toNat).toNat = n.toNat := by simp; omega
         rw [this]; omega
       · cases h3
     · cases hb
   · cases h'
theorem kindT_eq {t : TypeId} {k : IntKind} (h : kindT P t = some k) : P.underlying t = some (.int k) := by
 unfold kindT at h
 split at h
 · rename_i k' e; cases h; exact e
 · cases h
theorem conv_run (hr : HR A β H w) (hA : ∀ b, memN H.ban b = false → A b) {s d : TypeId} {x y : Value} (h : VR β x y) : Loads P β H w (convert s d y) (convS P H s d x) := by
 have hq : ∀ (z : Value) (n : Nat), y = z → Loads P β H w (convert s d y) (Nx.qf n H (quick P (convert s d z))) := by
  intro z n e
  subst e
  have := quick_flat (P := P) (β := β) (H := H) (s := convert s d y) (n := n)
  revert this
  generalize Nx.qf n H (quick P (convert s d y)) = r
  intro hp
  cases r with
  | val v H' => obtain ⟨h1, v', h2, h3⟩ := hp; exact ⟨h1, v', h2, h3 w⟩
  | bad n => trivial
  | _ => exact hp
 unfold convS
 split
 · rename_i k n
   have hq' := hq _ 62 h.int
   unfold convI
   split
   · rename_i k0 k' m h1 h2
     cases hs : smallK k' m with
     | false => exact hq'
     | true =>
       have h1 := kindT_eq h1
       have h2 := kindT_eq h2
       obtain rfl := h.int
       refine ⟨rfl, .int k' (.ofNat m), .atom rfl, ?_⟩
       have hw := smallK_eq hs
       simp [convert, under_run h1, under_run h2, Conv.intToInt]
       exact hw
   · exact hq'
 · exact hq _ _ h.string
 · rename_i b off n c0
   split
   · rename_i q hq1 he hd
     obtain ⟨e, he, hb⟩ := Option.bind_eq_some_iff.1 he
     have hu := sliceE_eq he
     cases hc : (cellsAt q off n).bind bytesL with
     | none => trivial
     | some bs =>
       obtain ⟨l, h1, h2⟩ := Option.bind_eq_some_iff.1 hc
       have h2 := bytesL_mem _ _ h2
       obtain ⟨h3, h4, h5⟩ := cellsAt_eq h1
       obtain ⟨h7, h8, h9⟩ := read_inv hq1
       have hbs : bs.length = n := by rw [h2] at h5; simpa using h5
       refine ⟨rfl, .string ⟨bs.toArray⟩, .atom rfl, ?_⟩
       rcases h.slice_inv with ⟨g, _⟩ | ⟨g0, a', c, g, rfl⟩ | ⟨b', off', k, c, g, hk, hnc, hcm, h0, rfl⟩
       · cases g
       · have hb0 : bs = [] := List.eq_nil_of_length_eq_zero (by omega)
         subst hb0
         have := run_convert_bytes_back (P := P) w s d e a' c [] hu hb hd (fun j hj => by simp at hj)
         simpa [g0] using this
       · cases g
         have hrow := hr.row b k q hk h7 h8 (hA _ h9)
         have := run_convert_bytes_back (P := P) w s d e ⟨k.blk, off, none⟩ c bs hu hb hd (fun j hj => by
          have hx : l[j]? = some (.int .u8 ((bs[j]).toNat : Int)) := by rw [h2]; simp [hj]
          rw [h4] at hx
          rw [List.getElem?_take] at hx
          split at hx
          · rw [List.getElem?_drop] at hx
            obtain ⟨y, hy, hv⟩ := row_cell hrow (read_elem hq1) hx
            rw [add_addr, hy, hv.int]
          · cases hx)
         rw [hbs] at this
         exact this
   · trivial
 · trivial
theorem Loads.does {s : Sem Value} {n : Nx} (h : Loads P β H w s n) (hw : WF H) (hr : HR A β H w) : Does P A β H w (do pure (Next.value (← s))) n := by
 cases n with
 | val v H' =>
   obtain ⟨rfl, v', hv, hs⟩ := h
   exact ⟨β, v', w, run_v hs, St.refl _ _ _, hv, hr, hw⟩
 | skip H' => exact h.elim
 | enter f args H' => exact h.elim
 | bad n => trivial
theorem args_VL {R : Regs} {a : Act} (h : RR β R a.tmps) (xs : Array Operand) : VL β (mapL (evS R) xs.toList) (xs.map a.eval).toList := by
 rw [mapL_eq, Array.toList_map]; exact VL.map (fun x => h.eval x) _
theorem parts_PL {R : Regs} {a : Act} (h : RR β R a.tmps) (ps : Array (Nat × Operand)) : PL β (partsS R ps) (ps.map fun p => (p.1, a.eval p.2)).toList := by
 unfold partsS
 rw [mapL_eq, Array.toList_map]
 induction ps.toList with
 | nil => exact .nil
 | cons p r ih => exact .cons (h.eval p.2) ih
theorem opt_OR {R : Regs} {a : Act} (h : RR β R a.tmps) (x : Option Operand) : OR β (x.map (evS R)) (x.map a.eval) := by
 cases x with
 | none => trivial
 | some x => exact h.eval x
theorem call_does (hw : WF H) (hr : HR A β H w) (hA : ∀ b, memN H.ban b = false → A b) {R : Regs} {a : Act} (h : RR β R a.tmps) (c : Call) (f : Operand) (hc : c.callee = .value f) (t : TypeId) :
  Does P A β H w (do let d ← resolve a.eval c t; invoke d.target d.args) (callV P H (mapL (evS R) c.args.toList) (evS R f)) := by
 have hf := h.eval f
 have ha := args_VL h c.args
 revert hf
 generalize evS R f = vf
 intro hf
 unfold callV
 split
 · rename_i fn first captured
   obtain ⟨ys, ys', hy, h1, h2⟩ := hf.func_inv
   unfold callS
   split
   · rename_i fd hfd
     split
     · rename_i body hbody
       cases hname : (fd.name == "runtime.NumGoroutine") with
       | true => trivial
       | false =>
         have hne : ¬ fd.name = "runtime.NumGoroutine" := by simpa using hname
         refine ⟨rfl, ys ++ c.args.map a.eval ++ ys', ?_, ?_⟩
         · simp [hne, resolve, hc, hy, Deferred.ofValue, invoke, callFunc, hfd, hname, hbody]
         · rw [catL_eq, catL_eq, Array.toList_append, Array.toList_append, List.append_assoc]
           exact h1.append (ha.append h2)
     · trivial
   · trivial
 · trivial
theorem min_run {f : Array TypeId → TypeId → Array Value → Sem Value} {ts : List TypeId} {t : TypeId} {l m : List Value} (h : VL β l m) (n k : Nat) : Pure P β H (f ts.toArray t m.toArray) (cond (flatL l) (Nx.qf n H (quick P (f ts.toArray t l.toArray))) (.bad k)) := by
 cases hf : flatL l with
 | false => trivial
 | true =>
   rw [VL.of_flat h (flatL_mem _ hf)]
   exact quick_flat
theorem len_run {ts : Array TypeId} {t : TypeId} {l m : List Value} (h : VL β l m) : Pure P β H (Builtin.len_ ts t m.toArray) (lenS P H (nth l 0) ((nth ts.toList 0).bind P.underlying)) := by
 rw [nth_eq, nth_eq]
 unfold lenS
 split
 · rename_i a n c0 e hx hu
   obtain ⟨t0, ht0, hu⟩ := Option.bind_eq_some_iff.1 hu
   obtain ⟨y, hy, hv⟩ := h.get hx
   obtain ⟨a', c, rfl, _, _⟩ := hv.slice_len
   have h1 : ts[0]? = some t0 := by simpa using ht0
   have h2 : m.toArray[0]? = some (.slice a' n c) := by simpa using hy
   exact Pure.ok (.atom rfl) (fun w => by simp only [Builtin.len_, h1, h2, Sem.run_bind, under_run hu, Result.andThen_ok]; rfl)
 · rename_i s hx hu
   obtain ⟨t0, ht0, hu⟩ := Option.bind_eq_some_iff.1 hu
   obtain ⟨y, hy, hv⟩ := h.get hx
   obtain rfl := hv.string
   have h1 : ts[0]? = some t0 := by simpa using ht0
   have h2 : m.toArray[0]? = some (.string s) := by simpa using hy
   rw [forceN_eq]
   exact Pure.ok (.atom rfl) (fun w => by simp only [Builtin.len_, h1, h2, Sem.run_bind, under_run hu, Result.andThen_ok]; rfl)
 · trivial
theorem builtin_does (hw : WF H) (hr : HR A β H w) {R : Regs} {a : Act} (h : RR β R a.tmps) (c : Call) (b : Builtin) (hc : c.callee = .builtin b) (t : TypeId) (hA : b = .append → ∀ i, memN H.ban i = false → A i) :
  Does P A β H w (do let d ← resolve a.eval c t; invoke d.target d.args) (builtinS P H b c.argTypes.toList t (mapL (evS R) c.args.toList)) := by
 have ha := args_VL h c.args
 have run : ∀ {s : Sem Next}, (builtin b c.argTypes t (c.args.map fun | .const _ => true | _ => false) (c.args.map a.eval) = s) → (do let d ← resolve a.eval c t; invoke d.target d.args : Sem Next) = s := by
  intro s e
  rw [← e]
  simp only [resolve, hc, pure_bind, invoke]
  rfl
 have hm : (c.args.map a.eval) = ((c.args.map a.eval).toList).toArray := (Array.toArray_toList).symm
 have hts : c.argTypes = c.argTypes.toList.toArray := (Array.toArray_toList).symm
 unfold builtinS
 split
 · rw [run rfl]
   show Does P A β H w (do pure (Next.value (← Builtin.append_ c.argTypes t (c.args.map a.eval)))) _
   cases hst : sameT c.argTypes.toList with
   | none => trivial
   | some t0 =>
     have : c.argTypes.toList = [t0.1, t0.2] := by
      unfold sameT at hst
      split at hst
      · rename_i t1 t2 e
        cases hst; exact e
      · cases hst
     rw [hts, this, hm]
     exact append_does hw hr (hA rfl) ha
 · rw [run rfl]
   show Does P A β H w (do pure (Next.value (← Builtin.len_ c.argTypes t (c.args.map a.eval)))) _
   rw [hm]
   exact (len_run ha).does hw hr
 · rw [run rfl]
   show Does P A β H w (do pure (Next.value (← Builtin.min_ c.argTypes t (c.args.map a.eval)))) _
   rw [hm]
   have := min_run (P := P) (H := H) (f := Builtin.min_) (ts := c.argTypes.toList) (t := t) ha 55 56
   rw [← hts] at this
   exact this.does hw hr
 · rw [run rfl]
   show Does P A β H w (do pure (Next.value (← Builtin.max_ c.argTypes t (c.args.map a.eval)))) _
   rw [hm]
   have := min_run (P := P) (H := H) (f := Builtin.max_) (ts := c.argTypes.toList) (t := t) ha 57 58
   rw [← hts] at this
   exact this.does hw hr
 · trivial
end
end
section
open Go.RowKit
variable {bs : Inhabited Base}
def keyD : TypeDesc → Prop
 | .int _ | .string => True
 | _ => False
theorem sameK_eq {d : TypeDesc} {k k0 : Value} {t : Bool} (h : sameK d k k0 = some t) : flat1 k = true ∧ flat1 k0 = true ∧ Instr.sameNow d k k0 = some t ∧ (t = true → k0 = k) := by
 unfold sameK at h
 split at h
 · rename_i a k a b k' b'
   rcases cond_split h with ⟨h1, h2⟩ | ⟨_, h2⟩
   · have := kindB_eq h1
     subst this
     cases h2
     rw [eqI_eq]
     refine ⟨rfl, rfl, ?_, ?_⟩
     · simp [Instr.sameNow]; rfl
     · intro h; simp at h; rw [h]
   · cases h2
 · rename_i a b
   cases h
   exact ⟨rfl, rfl, rfl, fun h => by
    have h1 : a.data = b.data := eq_of_beq (show (a.data == b.data) = true from h)
    have h2 : a = b := by cases a; cases b; simp at h1; rw [h1]
    rw [h2]⟩
 · cases h
theorem flatE_cons (e : MapEntry) (es : List MapEntry) : flatE (e :: es) = e.key :: e.val :: flatE es := by simp [flatE]
theorem flatE_append (es es' : List MapEntry) : flatE (es ++ es') = flatE es ++ flatE es' := by simp [flatE]
theorem flatE_modify (f : MapEntry → MapEntry) : ∀ (es : List MapEntry) (i : Nat) (e : MapEntry), es[i]? = some e → flatE (es.modify i f) = (flatE es).take (2 * i) ++ ([(f e).key, (f e).val] ++ (flatE es).drop (2 * i + 2))
 | [], i, e, h => by simp at h
 | x :: es, 0, e, h => by
   simp at h; subst h
   simp [flatE_cons]
 | x :: es, i + 1, e, h => by
   have := flatE_modify f es i e (by simpa using h)
   rw [List.modify_succ_cons, flatE_cons, this, flatE_cons]
   rw [show 2 * (i + 1) = 2 * i + 1 + 1 by omega, show 2 * i + 1 + 1 + 2 = 2 * i + 2 + 1 + 1 by omega]
   simp
section
variable {P : Program} {A : Nat → Prop} {β : Bij} {H : Hp} {w : World}
theorem findS_cons (d : TypeDesc) (k k0 v : Value) (l : List Value) (i : Nat) : findS d k (k0 :: v :: l) none i = (match sameK d k k0 with | some true => some (some (i, v)) | some false => findS d k l none (Nat.succ i) | none => none) := rfl
theorem find_eq {d : TypeDesc} {k k' : Value} (h : VR β k k') : ∀ (es : List MapEntry) (l : List Value) (i : Nat) (r : Option (Nat × Value)), VL β l (flatE es) → findS d k l none i = some r →
  match r with
  | some (m, v) => ∃ e, i ≤ m ∧ es[m - i]? = some e ∧ e.key = k ∧ k' = k ∧ flat1 k = true ∧ VR β v e.val ∧ Instr.findNow d k' es i = some (some (m, e.val))
  | none => Instr.findNow d k' es i = some none
 | [], l, i, r, hl, hf => by
   obtain rfl : l = [] := List.eq_nil_of_length_eq_zero (by have := hl.1; simpa [flatE] using this)
   cases hf
   rfl
 | e :: es, l, i, r, hl, hf => by
   rw [flatE_cons] at hl
   cases l with
   | nil => have := hl.1; simp at this
   | cons k0 l =>
     obtain ⟨y, r1, h1, h2, h3⟩ := hl.uncons
     cases h1
     cases l with
     | nil => have := h3.1; simp at this
     | cons v l =>
       obtain ⟨y, r1, h1, h4, h5⟩ := h3.uncons
       cases h1
       rw [findS_cons] at hf
       cases hs : sameK d k k0 with
       | none => rw [hs] at hf; cases hf
       | some t =>
         rw [hs] at hf
         obtain ⟨g1, g2, g3, g4⟩ := sameK_eq hs
         have hk := h.of_atom g1
         have hk0 := h2.of_atom g2
         have hnow : Instr.sameNow d k' e.key = some t := by rw [hk, hk0]; exact g3
         cases t with
         | true =>
           cases hf
           refine ⟨e, Nat.le_refl _, by simp, ?_, hk, g1, h4, ?_⟩
           · rw [hk0]; exact g4 rfl
           · simp [Instr.findNow, hnow]
         | false =>
           have hf' : findS d k l none (i + 1) = some r := hf
           have ih := find_eq h es l (i + 1) r h5 hf'
           cases r with
           | none =>
             simp only at ih ⊢
             simp [Instr.findNow, hnow, ih]
           | some p =>
             obtain ⟨m, u⟩ := p
             obtain ⟨e0, a1, a2, a3, a4, a5, a6, a7⟩ := ih
             refine ⟨e0, by omega, ?_, a3, a4, a5, a6, ?_⟩
             · rw [show m - i = (m - (i + 1)) + 1 by omega]; simpa using a2
             · simp [Instr.findNow, hnow, a7]
theorem mapKE_eq {t e : TypeId} {d : TypeDesc} (h : mapKE P t = some (d, e)) : ∃ k, P.underlying t = some (.map k e) ∧ P.underlying k = some d ∧ keyD d := by
 unfold mapKE at h
 split at h
 · rename_i k e' hu
   split at h
   · rename_i a hk; cases h; exact ⟨k, hu, hk, trivial⟩
   · rename_i hk; cases h; exact ⟨k, hu, hk, trivial⟩
   · cases h
 · cases h
theorem checkKey_run {t : TypeId} {d : TypeDesc} (hu : P.underlying t = some d) (hd : keyD d) (b : Bool) (v : Value) (w : World) : (Instr.checkKey b 10000 t v).run P w = .ok () w := by
 have key : ∀ n, (Instr.checkKey b (n + 1) t v).run P w = .ok () w := by
  intro n
  cases d <;> first | exact hd.elim | skip
  · simp [Instr.checkKey, under_run hu]
  · simp [Instr.checkKey, under_run hu]
 exact key 9999
theorem findKey_run {t : TypeId} {d : TypeDesc} (hu : P.underlying t = some d) {k : Value} {es : List MapEntry} {r : Option (Nat × Value)} (h : Instr.findNow d k es 0 = some r) (w : World) : (Instr.findKey t k es).run P w = .ok r w := by
 simp [Instr.findKey, under_run hu, h]
theorem RowV.map {q : Blk} {k : Bk} (h : RowV β q k w) (he : mapE ≤ q.elem) : ∃ (es : Array MapEntry) (clock : Nat), w.heap[k.blk]? = some (.map es clock) ∧ VL β q.cells (flatE es.toList) := by
 obtain ⟨cs, h1, _, h3⟩ := h
 rcases h1 with ⟨h1, _⟩ | ⟨_, es, clock, h1, h2, h4⟩
 · exact absurd h1 (Nat.not_lt.2 he)
 · refine ⟨es, clock, h1, ?_⟩
   rw [← h2]
   refine ⟨by simpa using h4, fun i x y hx hy => ?_⟩
   obtain ⟨y', hy', hv⟩ := h3 i x hx
   rw [Array.getElem?_toList, hy'] at hy
   cases hy; exact hv
theorem RowV.of_map {q : Blk} {k : Bk} {es : Array MapEntry} {clock : Nat} (he : mapE ≤ q.elem) (h : w.heap[k.blk]? = some (.map es clock)) (hl : VL β q.cells (flatE es.toList)) : RowV β q k w := by
 refine ⟨(flatE es.toList).toArray, .inr ⟨he, es, clock, h, rfl, by simpa using hl.1⟩, fun h' => absurd h' (Nat.not_lt.2 he), fun i x hx => ?_⟩
 obtain ⟨y, hy, hv⟩ := hl.get hx
 exact ⟨y, by simpa using hy, hv⟩
theorem VR.map_inv {b : Nat} {y : Value} (h : VR β (.map (some b)) y) : ∃ k, β b = some k ∧ y = .map (some k.blk) := by
 cases h with
 | atom h => cases h
 | map h => exact ⟨_, h, rfl⟩
theorem lookup_run (hr : HR A β H w) (hA : ∀ i, memN H.ban i = false → A i) {t : TypeId} {ok : Bool} {x x' ix ix' : Value} (hx : VR β x x') (hix : VR β ix ix') : Loads P β H w (Instr.lookup t x' ix' ok) (lookS P H t ok ix x) := by
 unfold lookS
 split
 · rename_i b
   obtain ⟨k, hk, rfl⟩ := hx.map_inv
   unfold lookM
   split
   · rename_i d e q hke hq
     obtain ⟨kt, hu, hku, hd⟩ := mapKE_eq hke
     obtain ⟨h1, h2, h3, h4⟩ := readM_inv hq
     obtain ⟨es, clock, h5, h6⟩ := (hr.row b k q hk h1 h2 (hA _ h3)).map h4
     cases hf : findS d ix q.cells none 0 with
     | none => trivial
     | some r =>
       have hfind := find_eq hix es.toList q.cells 0 r h6 hf
       have hget := MapKept.run_getObj_map (P := P) h5
       cases r with
       | none =>
         have hfk := findKey_run hku hfind w
         show Loads P β H w _ (match zeroV P e with | some z => lookV H ok false z | none => .bad 100)
         cases hz : zeroV P e with
         | none => trivial
         | some z =>
           have hz' : ∃ i, P.info? e = some i ∧ i.zero = some z ∧ constB z = true := by
            unfold zeroV at hz
            split at hz
            · rename_i i hi
              split at hz
              · rename_i z0 hz0
                rcases cond_split hz with ⟨g1, g2⟩ | ⟨_, g2⟩
                · cases g2; exact ⟨i, hi, hz0, g1⟩
                · cases g2
              · cases hz
            · cases hz
           obtain ⟨i, hi, hz0, hcz⟩ := hz'
           have hzr : (zeroValue e).run P w = .ok z w := by simp [zeroValue, info_run hi, hz0]
           cases ok with
           | true => exact ⟨rfl, .tuple #[z, .bool false], .tuple rfl (VL.cons (VR.const hcz) (VL.cons (.atom rfl) (VL.nil β))).2, by simp [Instr.lookup, under_run hu, hget, checkKey_run hku hd, hfk, hzr]⟩
           | false => exact ⟨rfl, z, VR.const hcz, by simp [Instr.lookup, under_run hu, hget, checkKey_run hku hd, hfk, hzr]⟩
       | some p =>
         obtain ⟨m, v⟩ := p
         obtain ⟨e0, _, _, _, _, _, g6, g7⟩ := hfind
         have hfk := findKey_run hku g7 w
         cases ok with
         | true => exact ⟨rfl, .tuple #[e0.val, .bool true], .tuple rfl (VL.cons g6 (VL.cons (.atom rfl) (VL.nil β))).2, by simp [Instr.lookup, under_run hu, hget, checkKey_run hku hd, hfk]⟩
         | false => exact ⟨rfl, e0.val, g6, by simp [Instr.lookup, under_run hu, hget, checkKey_run hku hd, hfk]⟩
   · trivial
 · have hx0 : x' = .map none := by
    cases hx with
    | atom h => rfl
   subst hx0
   unfold lookN
   split
   · rename_i d e hke
     obtain ⟨kt, hu, hku, hd⟩ := mapKE_eq hke
     cases hf : flat1 ix with
     | false => trivial
     | true =>
       obtain rfl := hix.of_atom hf
       have hfk := findKey_run (P := P) hku (k := ix') (es := []) (r := none) rfl w
       show Loads P β H w _ (match zeroV P e with | some z => lookV H ok false z | none => .bad 100)
       cases hz : zeroV P e with
       | none => trivial
       | some z =>
         have hz' : ∃ i, P.info? e = some i ∧ i.zero = some z ∧ constB z = true := by
          unfold zeroV at hz
          split at hz
          · rename_i i hi
            split at hz
            · rename_i z0 hz0
              rcases cond_split hz with ⟨g1, g2⟩ | ⟨_, g2⟩
              · cases g2; exact ⟨i, hi, hz0, g1⟩
              · cases g2
            · cases hz
          · cases hz
         obtain ⟨i, hi, hz0, hcz⟩ := hz'
         have hzr : (zeroValue e).run P w = .ok z w := by simp [zeroValue, info_run hi, hz0]
         cases ok with
         | true => exact ⟨rfl, .tuple #[z, .bool false], .tuple rfl (VL.cons (VR.const hcz) (VL.cons (.atom rfl) (VL.nil β))).2, by simp [Instr.lookup, under_run hu, checkKey_run hku hd, hfk, hzr]⟩
         | false => exact ⟨rfl, z, VR.const hcz, by simp [Instr.lookup, under_run hu, checkKey_run hku hd, hfk, hzr]⟩
   · trivial
 · trivial
theorem makeMap_does (hw : WF H) (hr : HR A β H w) (t : TypeId) : Does P A β H w (do pure (Next.value (← Instr.makeMap t none))) (makeM H none) := by
 show Does P A β H w _ (cond (Nat.ble H.next 131000) _ _)
 cases hb : Nat.ble H.next 131000 with
 | false => trivial
 | true =>
   have hg : Grew0 w (w.alloc (.map #[] 0)) := ⟨rfl, rfl, rfl, World.size_alloc _ _, fun r hr => heap_alloc_old w _ r hr⟩
   obtain ⟨h1, h2, h3⟩ := made0 hw hr (of_ble hb) [] mapE 0 0 hg (RowV.of_map (es := #[]) (clock := 0) (Nat.le_refl _) (heap_alloc_new w _) (VL.nil _))
   exact ⟨_, .map (some w.heap.size), _, by simp [Instr.makeMap], h1, VR.map (k := ⟨w.heap.size, 0, 0⟩) (by unfold Bij.put; simp), h2, h3⟩
theorem bits_same {k : Value} (h : flat1 k = true) : Instr.sameBits 10000 k k = true := by
 cases k <;> first | cases h | skip
 · simp [Instr.sameBits]
 · simp [Instr.sameBits]
 · rename_i s
   have : (s == s) = true := show (s.data == s.data) = true from beq_self_eq_true _
   simp [Instr.sameBits, this]
theorem update_does (hw : WF H) (hr : HR A β H w) (hA : ∀ i, memN H.ban i = false → A i) {t : TypeId} {m m' k k' v v' : Value} (hm : VR β m m') (hk : VR β k k') (hv : VR β v v') : Does P A β H w (do Instr.mapUpdate t m' k' v'; pure Next.skip) (updS P H t k v m) := by
 unfold updS
 split
 · rename_i b
   obtain ⟨kk, hb, rfl⟩ := hm.map_inv
   unfold updM
   split
   · rename_i d e q hke hq
     obtain ⟨kt, hu, hku, hd⟩ := mapKE_eq hke
     obtain ⟨h1, h2, h3, h4⟩ := readM_inv hq
     cases hcc : (flat1 k && Nat.beq (H.newest q) b) with
     | false => trivial
     | true =>
       obtain ⟨hfl, hnew⟩ := and_split hcc
       have hnew := of_beq hnew
       have hkk := hk.of_atom hfl
       subst hkk
       obtain ⟨es, clock, h5, h6⟩ := (hr.row b kk q hb h1 h2 (hA _ h3)).map h4
       have hget := MapKept.run_getObj_map (P := P) h5
       have hlt : kk.blk < w.heap.size := (Array.getElem?_eq_some_iff.1 h5).1
       have over : ∀ o : Obj, Over0 w { w with heap := w.heap.setIfInBounds kk.blk o } kk.blk := fun o => ⟨rfl, rfl, rfl, by simp, fun i hi => by simp [Array.getElem?_setIfInBounds, Ne.symm hi]⟩
       have here : ∀ o : Obj, ({ w with heap := w.heap.setIfInBounds kk.blk o } : World).heap[kk.blk]? = some o := fun o => by simp [Array.getElem?_setIfInBounds, hlt]
       show Does P A β H w _ (updK H b q k' v (findS d k' q.cells none 0))
       cases hf : findS d k' q.cells none 0 with
       | none => trivial
       | some r =>
         have hfind := find_eq hk es.toList q.cells 0 r h6 hf
         cases r with
         | none =>
           have hfk := findKey_run hku hfind w
           have hrow : RowV β ⟨catL q.cells [k', v], q.elem, q.size, q.grp⟩ kk { w with heap := w.heap.setIfInBounds kk.blk (.map (es.push { key := k', val := v', born := clock }) (clock + 1)) } := by
            refine RowV.of_map h4 (here _) ?_
            rw [catL_eq, Array.toList_push, flatE_append]
            exact h6.append (VL.cons hk (VL.cons hv (VL.nil β)))
           obtain ⟨g1, g2, g3⟩ := stored0 hw hr hb h1 hnew h3 (catL q.cells [k', v]) (over _) hrow
           refine ⟨_, ?_, g1, g2, g3⟩
           simp [Instr.mapUpdate, under_run hu, hget, checkKey_run hku hd, hfk, MapKept.run_setObj_map _ h5]
         | some p =>
           obtain ⟨i, u⟩ := p
           obtain ⟨e0, _, a2, a3, _, _, _, a7⟩ := hfind
           have hfk := findKey_run hku a7 w
           rw [Nat.sub_zero] at a2
           have a2' : es[i]? = some e0 := by simpa using a2
           have hrow : RowV β ⟨putM q.cells i k' v, q.elem, q.size, q.grp⟩ kk { w with heap := w.heap.setIfInBounds kk.blk (.map (es.modify i fun e => { e with key := k', val := v' }) clock) } := by
            refine RowV.of_map h4 (here _) ?_
            show VL β (putM q.cells i k' v) _
            unfold putM
            rw [putL_eq, Array.toList_modify, flatE_modify _ _ _ _ a2]
            have e1 : Nat.mul 2 i = 2 * i := rfl
            rw [e1]
            exact (h6.take _).append ((VL.cons hk (VL.cons hv (VL.nil β))).append (h6.drop _))
           obtain ⟨g1, g2, g3⟩ := stored0 hw hr hb h1 hnew h3 (putM q.cells i k' v) (over _) hrow
           refine ⟨_, ?_, g1, g2, g3⟩
           have hst : (Instr.keyThatStays e0.key k').run P w = .ok k' w := by
            rw [a3]; simp [Instr.keyThatStays, bits_same hfl]
           simp [Instr.mapUpdate, under_run hu, hget, checkKey_run hku hd, hfk, a2', hst, MapKept.run_setObj_map _ h5]
   · trivial
 · trivial
end
end
end Go.Proofs.Ytkgbifbbpmdpgaa.Sh
