/- The small machine's operations on memory: stores, new blocks, appends. Of no program. -/
import Derived.Test.YtkgbifbbpmdpgaaQSh6
import Derived.Laws.Tables
set_option linter.unusedVariables false
set_option linter.unusedSimpArgs false
namespace Go.Proofs.Ytkgbifbbpmdpgaa.Sh
section
open Go.RowKit
variable {bs : Inhabited Base}
section
variable {P : Program} {A : Nat → Prop} {β : Bij} {H : Hp} {w w' : World}
theorem grow_get (hw : WF H) (i : Nat) (q : Blk) (cells : List Value) (j : Nat) : (H.grow i q cells).tr.get j = if j = H.next then some ⟨cells, q.elem, q.size, q.grp⟩ else H.tr.get j := by
 show (H.tr.set ⟨cells, q.elem, q.size, q.grp⟩ H.next).get j = _
 rw [Tr.get_set _ _ _ _ ((hw.inb H.next hw.nx.1 (by have := hw.nx.2; omega)).1)]
theorem grow_grp (hw : WF H) {i : Nat} {q : Blk} (hq : H.tr.get i = some q) (cells : List Value) (g : Nat) : (H.grow i q cells).grp.get g = if g = q.grp then some (H.next, H.since q) else H.grp.get g := by
 have hg := hw.grp i q hq
 have hp := hw.pos hq
 show (H.grp.set (H.next, H.since q) q.grp).get g = _
 rw [Tr.get_set _ _ _ _ ((hw.inb q.grp hg.1 (by have := hw.nx.2; omega)).2)]
theorem grow_since (hw : WF H) {i : Nat} {q : Blk} (hq : H.tr.get i = some q) (cells : List Value) (q' : Blk) : (H.grow i q cells).since q' = H.since q' := by
 unfold Hp.since
 rw [grow_grp hw hq]
 by_cases e : q'.grp = q.grp
 · rw [if_pos e, e]; rfl
 · rw [if_neg e]
theorem grow_newest (hw : WF H) {i : Nat} {q : Blk} (hq : H.tr.get i = some q) (cells : List Value) (q' : Blk) : (H.grow i q cells).newest q' = if q'.grp = q.grp then H.next else H.newest q' := by
 unfold Hp.newest
 rw [grow_grp hw hq]
 by_cases e : q'.grp = q.grp
 · simp [e]
 · simp [e]
theorem grown (hw : WF H) (hr : HR A β H w) (hm : H.next ≤ 131000) {b : Nat} {k : Bk} {q : Blk} (hb : β b = some k) (hq : H.tr.get b = some q) (hn : H.newest q = b) (hl : H.since q ≤ b) (hA : A q.grp) (hban : memN H.ban q.grp = false) (he : q.elem < mapE) (news : List Value) (r : Nat)
  (cs' : Array Value) (hp : Pre β (q.cells ++ news) cs')
  (ho : (Over w w' k.blk cs' q.elem ∧ r = k.blk ∧ cs'.size = k.cap ∧ ∀ cs, w.heap[k.blk]? = some (.cells cs q.elem (0, 0)) → ∀ i, i < q.cells.length → cs'[i]? = cs[i]?) ∨ (Grew w w' cs' q.elem ∧ r = w.heap.size)) :
  St β H w (β.put H.next ⟨r, cs'.size, q.size⟩) (H.grow b q (q.cells ++ news)) w' ∧ HR A (β.put H.next ⟨r, cs'.size, q.size⟩) (H.grow b q (q.cells ++ news)) w' ∧ WF (H.grow b q (q.cells ++ news)) := by
 have hx := Bij.put_ext hr ⟨r, cs'.size, q.size⟩
 have hget := grow_get hw b q (q.cells ++ news)
 have hsin := grow_since hw hq (q.cells ++ news)
 have hnew := grow_newest hw hq (q.cells ++ news)
 have hdom := hr.dom b k hb
 have hpb : ∀ i k', (β.put H.next ⟨r, cs'.size, q.size⟩) i = some k' → (i = H.next ∧ k' = ⟨r, cs'.size, q.size⟩) ∨ (i ≠ H.next ∧ β i = some k') := by
  intro i k' hi
  unfold Bij.put at hi
  split at hi
  · rename_i h; cases hi; exact .inl ⟨h, rfl⟩
  · rename_i h; exact .inr ⟨h, hi⟩
 have hmine : q.grp ∈ (H.grow b q (q.cells ++ news)).wrote ∨ H.old ≤ q.grp := by
  rcases Nat.lt_or_ge q.grp H.old with h | h
  · exact .inl (mem_wrote.2 (.inr ⟨rfl, h⟩))
  · exact .inr h
 have wos : w'.os = w.os := ho.elim (fun h => h.1.os) (fun h => h.1.os)
 have wtp : w'.tape = w.tape := ho.elim (fun h => h.1.tape) (fun h => h.1.tape)
 have wou : w'.output = w.output := ho.elim (fun h => h.1.output) (fun h => h.1.output)
 have wsz : w.heap.size ≤ w'.heap.size := ho.elim (fun h => by have := h.1.size; omega) (fun h => by have := h.1.size; omega)
 have hrow' : w'.heap[r]? = some (.cells cs' q.elem (0, 0)) := ho.elim (fun h => by rw [h.2.1]; exact h.1.new) (fun h => by rw [h.2]; exact h.1.new)
 have hother : ∀ i, i < w.heap.size → i ≠ k.blk → w'.heap[i]? = w.heap[i]? := fun i hi hne => ho.elim (fun h => h.1.old i hne) (fun h => h.1.old i hi)
 have back : ∀ i q1, (H.grow b q (q.cells ++ news)).tr.get i = some q1 → (i = H.next ∧ q1 = ⟨q.cells ++ news, q.elem, q.size, q.grp⟩) ∨ (i ≠ H.next ∧ H.tr.get i = some q1) := by
  intro i q1 h
  rw [hget] at h
  by_cases e : i = H.next
  · rw [if_pos e] at h; cases h; exact .inl ⟨e, rfl⟩
  · rw [if_neg e] at h; exact .inr ⟨e, h⟩
 refine ⟨⟨wos, wtp, wou, wsz, hx, Nat.le_succ _, rfl, rfl, fun i hi => mem_wrote.2 (.inl hi), ?_, ?_, ?_, ?_, ?_, fun i h1 h2 => ⟨⟨r, cs'.size, q.size⟩, by have h3 : i < H.next + 1 := h2; unfold Bij.put; rw [if_pos (by omega)]⟩⟩, ⟨?_, ?_, ?_, hr.base.trans hx, fun i o e => (hother i (lt_of_row (hr.fix i o e)) (fun e2 => by rw [e2, hr.apart b k hb] at e; cases e)).trans (hr.fix i o e), fun i k' hi => by
  rcases hpb i k' hi with ⟨_, h1⟩ | ⟨_, h1⟩
  · subst h1
    show baseRow r = none
    rcases ho with h | h
    · rw [h.2.1]; exact hr.apart b k hb
    · rw [h.2]; exact hr.fix_none (Nat.le_refl _)
  · exact hr.apart i k' h1⟩, ⟨Nat.le_succ_of_le hw.od, ?_, ?_, ?_, ?_, ?_, ?_, ?_⟩⟩
 · intro i hi hk
   refine hother i hi (fun e => ?_)
   obtain ⟨h1, h2⟩ := hk b k q hb hq e.symm
   rcases hmine with h | h
   · exact h2 h
   · omega
 · intro i k' hi
   rcases hpb i k' hi with ⟨h1, h2⟩ | ⟨_, h1⟩
   · subst h1
     refine .inr ⟨Nat.le_refl _, Nat.lt_succ_self _, ⟨q.cells ++ news, q.elem, q.size, q.grp⟩, by rw [hget, if_pos rfl], .inr ⟨b, k, q, hb, hq, rfl, fun h4 => ?_, ?_⟩⟩
     · rcases hmine with h | h
       · exact h4.2 h
       · omega
     · rcases ho with ⟨_, h3, _⟩ | ⟨_, h3⟩
       · exact .inr (by rw [h2]; exact h3.symm)
       · exact .inl (by rw [h2]; simp only; omega)
   · exact .inl h1
 · intro i q' hq'
   exact ⟨q', by rw [hget, if_neg (by have := (hw.pos hq').2; omega)]; exact hq', rfl, rfl⟩
 · intro i q' hq' _ _
   exact ⟨by rw [hget, if_neg (by have := (hw.pos hq').2; omega)]; exact hq', hsin q'⟩
 · intro g hg
   rcases mem_wrote.1 hg with h | ⟨rfl, h⟩
   · exact .inl h
   · exact .inr ⟨h, hban, b, k, q, hb, hq, rfl⟩
 · intro i k' hi
   rcases hpb i k' hi with ⟨h1, h2⟩ | ⟨h0, h1⟩
   · subst h1; subst h2
     refine ⟨Nat.lt_succ_self _, ?_, ⟨q.cells ++ news, q.elem, q.size, q.grp⟩, by rw [hget, if_pos rfl], rfl⟩
     simp only
     exact (Array.getElem?_eq_some_iff.1 hrow').1
   · obtain ⟨h2, h3, q', h4, h5⟩ := hr.dom i k' h1
     exact ⟨Nat.lt_succ_of_lt h2, by omega, q', by rw [hget, if_neg h0]; exact h4, h5⟩
 · intro i k' q' hi hq' hl' ha
   rcases hpb i k' hi with ⟨h1, h2⟩ | ⟨h0, h1⟩
   · subst h1; subst h2
     rw [hget, if_pos rfl] at hq'
     cases hq'
     refine RowV.of he hrow' rfl (fun j x hx' => ?_)
     obtain ⟨y, hy, hv⟩ := hp j x hx'
     exact ⟨y, hy, hv.mono hx⟩
   · rw [hget, if_neg h0] at hq'
     rw [hsin] at hl'
     have hold := hr.row i k' q' h1 hq' hl' ha
     by_cases e : k'.blk = k.blk
     · rcases ho with ⟨h2, h3, h3', h4⟩ | ⟨h2, h3⟩
       · have hgq := hr.share i b k' k q' q h1 hb hq' hq e
         have hle := hw.mono i b q' q hq' hq hgq (alone hw hq hn hq' hgq).1 hl'
         obtain ⟨cs2, h8, h9, _⟩ := (hr.row b k q hb hq hl hA).cells he
         have he' : q'.elem < mapE := by
          obtain ⟨cs, h1x, _⟩ := hold
          rcases h1x with ⟨h, _⟩ | ⟨_, es, cl, h, _⟩
          · exact h
          · rw [e, h8] at h; cases h
         obtain ⟨cs, h5, h6, h7⟩ := hold.cells he'
         rw [e] at h5
         rw [h5] at h8
         have h10 : cs = cs2 ∧ q'.elem = q.elem := by
          have := Option.some.inj h8
          exact ⟨by injection this, by injection this⟩
         obtain ⟨h11, helem⟩ := h10
         rw [helem] at h5
         refine RowV.of he' (by rw [e, helem]; exact h2.new) ?_ (fun j x hx' => ?_)
         · rw [h3', ← h9, ← h11]; exact h6
         · obtain ⟨y, hy, hv⟩ := h7 j x hx'
           have hj : j < q'.cells.length := (List.getElem?_eq_some_iff.1 hx').1
           exact ⟨y, by rw [h4 cs h5 j (by omega)]; exact hy, hv.mono hx⟩
       · exact hold.mono hx (h2.old _ (hr.dom i k' h1).2.1)
     · exact hold.mono hx (hother _ (hr.dom i k' h1).2.1 e)
 · intro i i' k1 k2 q1 q2 hi hi' hq1 hq2 hk
   rcases hpb i k1 hi with ⟨h1, h2⟩ | ⟨h0, h1⟩ <;> rcases hpb i' k2 hi' with ⟨h1', h2'⟩ | ⟨h0', h1'⟩
   · rw [h1] at hq1; rw [h1'] at hq2; rw [hq1] at hq2; cases hq2; rfl
   · rw [hget, if_pos h1] at hq1
     rw [hget, if_neg h0'] at hq2
     cases hq1
     rw [h2] at hk
     rcases ho with ⟨_, h3, _⟩ | ⟨_, h3⟩
     · exact (hr.share i' b k2 k q2 q h1' hb hq2 hq (by rw [← hk]; exact h3)).symm
     · have := (hr.dom i' k2 h1').2.1; simp only at hk; omega
   · rw [hget, if_neg h0] at hq1
     rw [hget, if_pos h1'] at hq2
     cases hq2
     rw [h2'] at hk
     rcases ho with ⟨_, h3, _⟩ | ⟨_, h3⟩
     · exact hr.share i b k1 k q1 q h1 hb hq1 hq (by rw [hk]; exact h3)
     · have := (hr.dom i k1 h1).2.1; simp only at hk; omega
   · rw [hget, if_neg h0] at hq1; rw [hget, if_neg h0'] at hq2
     exact hr.share i i' k1 k2 q1 q2 h1 h1' hq1 hq2 hk
 · have := hw.nx; exact ⟨Nat.le_succ_of_le this.1, by show H.next + 1 ≤ _; omega⟩
 · intro i h1 h2
   have := hw.inb i h1 h2
   exact ⟨by show (H.tr.set _ _).inb i = true; rw [Tr.inb_set]; exact this.1, by show (H.grp.set _ _).inb i = true; rw [Tr.inb_set]; exact this.2⟩
 · intro i hi
   have hi' : H.next + 1 ≤ i := hi
   rw [hget, if_neg (by omega)]; exact hw.none i (by omega)
 · intro i q1 hq1
   rw [hnew]
   rcases back i q1 hq1 with ⟨h1, h2⟩ | ⟨h0, h1⟩
   · subst h1; subst h2
     have h3 := hw.grp b q hq
     have h4 := hw.pos hq
     exact ⟨h3.1, by simp only; omega, by simp⟩
   · have h3 := hw.grp i q1 h1
     have h4 := (hw.pos h1).2
     refine ⟨h3.1, h3.2.1, ?_⟩
     split
     · omega
     · exact h3.2.2
 · intro g p hp'
   rw [grow_grp hw hq] at hp'
   have h3 := hw.grp b q hq
   have h4 := hw.pos hq
   by_cases e : g = q.grp
   · rw [if_pos e] at hp'; cases hp'; exact ⟨Nat.lt_succ_self _, by show g < H.next + 1; omega⟩
   · rw [if_neg e] at hp'
     have := hw.new g p hp'
     exact ⟨Nat.lt_succ_of_lt this.1, Nat.lt_succ_of_lt this.2⟩
 · intro i i' q1 q2 hq1 hq2 hg hii hl'
   rw [hsin] at hl'
   rcases back i q1 hq1 with ⟨h1, h2⟩ | ⟨h0, h1⟩ <;> rcases back i' q2 hq2 with ⟨h1', h2'⟩ | ⟨h0', h1'⟩
   · rw [h2, h2']; exact Nat.le_refl _
   · have := (hw.pos h1').2; omega
   · rw [h2'] at hg ⊢
     have h3 := hw.mono i b q1 q h1 hq hg (alone hw hq hn h1 hg).1 hl'
     simp; omega
   · exact hw.mono i i' q1 q2 h1 h1' hg hii hl'
 · intro i h1 h2
   have h2' : i < H.next + 1 := h2
   rw [hget]
   by_cases e : i = H.next
   · exact ⟨_, if_pos e⟩
   · rw [if_neg e]; exact hw.all i h1 (by omega)
end
end
section
open Go.RowKit
variable {bs : Inhabited Base}
theorem zerosL_get (z : List Value) : ∀ (n i : Nat), i < n * z.length → (zerosL z n)[i]? = z[i % z.length]?
 | 0, i, h => by simp at h
 | n + 1, i, h => by
   show (catL z (zerosL z n))[i]? = _
   rw [catL_eq]
   by_cases hi : i < z.length
   · rw [List.getElem?_append_left hi, Nat.mod_eq_of_lt hi]
   · rw [List.getElem?_append_right (by omega), zerosL_get z n (i - z.length) (by rw [Nat.succ_mul] at h; omega)]
     have e : i % z.length = (i - z.length) % z.length := Nat.mod_eq_sub_mod (by omega)
     rw [e]
theorem zerosL_made (z : Array Value) (n : Nat) : (madeCells z (n * z.size)).toList = zerosL z.toList n := by
 apply List.ext_getElem?
 intro i
 by_cases h : i < n * z.size
 · rw [zerosL_get _ _ _ (by simpa using h)]
   have hz : 0 < z.size := by
    rcases Nat.eq_zero_or_pos z.size with e | e
    · rw [e] at h; simp at h
    · exact e
   have hm : i % z.size < z.size := Nat.mod_lt _ hz
   simp [madeCells, h, hm]
 · rw [List.getElem?_eq_none (by simp [madeCells]; omega), List.getElem?_eq_none (by rw [zerosL_len]; simp; omega)]
theorem zerosL_mem (z : List Value) : ∀ (n : Nat) (x : Value), x ∈ zerosL z n → x ∈ z
 | 0, x, h => by cases h
 | n + 1, x, h => by
   have h' : x ∈ catL z (zerosL z n) := h
   rw [catL_eq] at h'
   rcases List.mem_append.1 h' with h | h
   · exact h
   · exact zerosL_mem z n x h
theorem setFold_get (off : Nat) : ∀ (l : List Value) (n : Nat) (cs : Array Value), off + n + l.length ≤ cs.size → ∀ i,
  ((l.zipIdx n).foldl (fun (cs : Array Value) (p : Value × Nat) => cs.setIfInBounds (off + p.2) p.1) cs)[i]? = if off + n ≤ i ∧ i < off + n + l.length then l[i - (off + n)]? else cs[i]?
 | [], n, cs, h, i => by simp; intro h1 h2; omega
 | x :: r, n, cs, h, i => by
   simp only [List.length_cons] at h ⊢
   rw [List.zipIdx_cons, List.foldl_cons, setFold_get off r (n + 1) (cs.setIfInBounds (off + n) x) (by simp; omega) i]
   by_cases h1 : off + n ≤ i ∧ i < off + n + (r.length + 1)
   · rw [if_pos h1]
     by_cases h2 : i = off + n
     · subst h2
       rw [if_neg (by omega), Array.getElem?_setIfInBounds, if_pos rfl, if_pos (by omega)]; simp
     · rw [if_pos (by omega)]
       have e : i - (off + n) = (i - (off + (n + 1))) + 1 := by omega
       rw [e, List.getElem?_cons_succ]
   · rw [if_neg h1, if_neg (by omega), Array.getElem?_setIfInBounds, if_neg (by omega)]
theorem setFold (off : Nat) (l : List Value) (cs : Array Value) (h : off + l.length ≤ cs.size) :
  (l.zipIdx.foldl (fun (cs : Array Value) (p : Value × Nat) => cs.setIfInBounds (off + p.2) p.1) cs).toList = cs.toList.take off ++ (l ++ cs.toList.drop (off + l.length)) := by
 apply List.ext_getElem?
 intro i
 rw [Array.getElem?_toList, setFold_get off l 0 cs (by omega) i, Nat.add_zero]
 have hlen : (cs.toList.take off).length = off := by simp; omega
 by_cases h1 : i < off
 · rw [if_neg (by omega), List.getElem?_append_left (by omega), List.getElem?_take, if_pos h1, Array.getElem?_toList]
 · rw [List.getElem?_append_right (by omega), hlen]
   by_cases h2 : i < off + l.length
   · rw [if_pos (by omega), List.getElem?_append_left (by omega)]
   · rw [if_neg (by omega), List.getElem?_append_right (by omega), List.getElem?_drop, Array.getElem?_toList]
     congr 1; omega
theorem putL_eq (l : List Value) (off : Nat) (vs : List Value) : putL l off vs = l.take off ++ (vs ++ l.drop (off + vs.length)) := by
 unfold putL
 rw [catL_eq, catL_eq, takeN_eq, dropN_eq, lenL_eq]; rfl
theorem VL.put {β : Bij} {l m vs us : List Value} (h : VL β l m) (hv : VL β vs us) (off : Nat) : VL β (putL l off vs) (m.take off ++ (us ++ m.drop (off + us.length))) := by
 rw [putL_eq, ← hv.1]
 exact (h.take off).append (hv.append (h.drop _))
inductive PL (β : Bij) : List (Nat × Value) → List (Nat × Value) → Prop
 | nil : PL β [] []
 | cons {i : Nat} {x y : Value} {l m : List (Nat × Value)} (h : VR β x y) (hl : PL β l m) : PL β ((i, x) :: l) ((i, y) :: m)
theorem fill_run {β : Bij} {place place' : Nat → Option (Nat × Nat)} (hpl : ∀ k, place k = place' k) {parts parts' : List (Nat × Value)} (hp : PL β parts parts') : ∀ (l l' : List Value) (cs : Array Value), VL β l cs.toList → fillL place parts l = some l' →
  ∃ cs', Instr.fill place' cs parts' = some cs' ∧ VL β l' cs'.toList := by
 induction hp with
 | nil => intro l l' cs h e; cases e; exact ⟨cs, rfl, h⟩
 | cons h hl ih =>
   rename_i i x y r r'
   intro l l' cs hv e
   have e' : (match place i with
    | some q => cond (oneL (cellsL x) && Nat.beq (lenL (cellsL x)) q.2 && Nat.ble (Nat.add q.1 q.2) (lenL l)) (fillL place r (putL l q.1 (cellsL x))) none
    | none => none) = some l' := e
   cases hq : place i with
   | none => rw [hq] at e'; cases e'
   | some q =>
     obtain ⟨off, size⟩ := q
     rw [hq] at e'
     simp only at e'
     rcases cond_split e' with ⟨h1, h2⟩ | ⟨_, h2⟩
     · obtain ⟨h1, h3⟩ := and_split h1
       obtain ⟨h1, h4⟩ := and_split h1
       have h3 : off + size ≤ lenL l := of_ble h3
       have h4 := of_beq h4
       rw [lenL_eq] at h3 h4
       have hc := cells_VL h h1
       have hs : y.cells.size = size := by rw [← h4, hc.1]; simp
       have hz : off + y.cells.size ≤ cs.size := by have := hv.1; simp at this; omega
       have hfold := setFold off y.cells.toList cs (by simpa using hz)
       have e2 : (y.cells.zipIdx.foldl (fun cs (x : Value × Nat) => cs.setIfInBounds (off + x.2) x.1) cs).toList = cs.toList.take off ++ (y.cells.toList ++ cs.toList.drop (off + y.cells.toList.length)) := by
        rw [← Array.foldl_toList, Array.toList_zipIdx]; simpa using hfold
       obtain ⟨cs', h5, h6⟩ := ih (putL l off (cellsL x)) l' (y.cells.zipIdx.foldl (fun cs (x : Value × Nat) => cs.setIfInBounds (off + x.2) x.1) cs) (by rw [e2]; exact hv.put hc off) h2
       refine ⟨cs', ?_, h6⟩
       rw [Instr.fill, ← hpl, hq]
       have n1 : ¬ (y.cells.size ≠ size) := by omega
       have n2 : ¬ (off + y.cells.size > cs.size) := by omega
       simp only [hs, ne_eq, not_true_eq_false, decide_false, Bool.false_or]
       rw [hs] at n2
       rw [if_neg (by simpa using n2)]
       exact h5
     · cases h2
end
end Go.Proofs.Ytkgbifbbpmdpgaa.Sh
