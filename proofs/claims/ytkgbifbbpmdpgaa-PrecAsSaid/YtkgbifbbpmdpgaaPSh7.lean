/- The small machine's operations on memory: stores, new blocks, appends. Of no program. -/
import Derived.Test.YtkgbifbbpmdpgaaPSh6
import Derived.Laws.Tables
import Derived.Laws.IdiomStrings
set_option linter.unusedVariables false
set_option linter.unusedSimpArgs false
namespace Go.Proofs.Ytkgbifbbpmdpgaa.Sh
section
open Go.RowKit
variable {bs : Inhabited Base}
section
variable {P : Program} {A : Nat → Prop} {β : Bij} {H : Hp} {w w' : World}
theorem grow_get (hw : WF H) (i : Nat) (q : Blk) (cells : List Value) (j : Nat) : (H.grow i q cells).tr.get j = if j = H.next then some ⟨cells, q.elem, q.size, q.grp⟩ else H.tr.get j := by
 show (H.tr.set ⟨cells, q.elem, q.size, q.grp⟩ H.next).get j = _
 rw [Tr.get_set _ _ _ _ ((hw.inb H.next hw.nx.1 (by have := hw.nx.2; omega)).1)]
theorem grow_grp (hw : WF H) {i : Nat} {q : Blk} (hq : H.tr.get i = some q) (cells : List Value) (g : Nat) : (H.grow i q cells).grp.get g = if g = q.grp then some (H.next, H.since q) else H.grp.get g := by
 have hg := hw.grp i q hq
 have hp := hw.pos hq
 show (H.grp.set (H.next, H.since q) q.grp).get g = _
 rw [Tr.get_set _ _ _ _ ((hw.inb q.grp hg.1 (by have := hw.nx.2; omega)).2)]
theorem grow_since (hw : WF H) {i : Nat} {q : Blk} (hq : H.tr.get i = some q) (cells : List Value) (q' : Blk) : (H.grow i q cells).since q' = H.since q' := by
 unfold Hp.since
 rw [grow_grp hw hq]
 by_cases e : q'.grp = q.grp
 · rw [if_pos e, e]; rfl
 · rw [if_neg e]
theorem grow_newest (hw : WF H) {i : Nat} {q : Blk} (hq : H.tr.get i = some q) (cells : List Value) (q' : Blk) : (H.grow i q cells).newest q' = if q'.grp = q.grp then H.next else H.newest q' := by
 unfold Hp.newest
 rw [grow_grp hw hq]
 by_cases e : q'.grp = q.grp
 · simp [e]
 · simp [e]
theorem grown (hw : WF H) (hr : HR A β H w) (hm : H.next ≤ 131000) {b : Nat} {k : Bk} {q : Blk} (hb : β b = some k) (hq : H.tr.get b = some q) (hn : H.newest q = b) (hl : H.since q ≤ b) (hA : A q.grp) (hban : memN H.ban q.grp = false) (he : q.elem < mapE) (news : List Value) (r : Nat)
  (cs' : Array Value) (hp : Pre β (q.cells ++ news) cs')
  (ho : (Over w w' k.blk cs' q.elem ∧ r = k.blk ∧ cs'.size = k.cap ∧ ∀ cs, w.heap[k.blk]? = some (.cells cs q.elem (0, 0)) → ∀ i, i < q.cells.length → cs'[i]? = cs[i]?) ∨ (Grew w w' cs' q.elem ∧ r = w.heap.size)) :
  St β H w (β.put H.next ⟨r, cs'.size, q.size⟩) (H.grow b q (q.cells ++ news)) w' ∧ HR A (β.put H.next ⟨r, cs'.size, q.size⟩) (H.grow b q (q.cells ++ news)) w' ∧ WF (H.grow b q (q.cells ++ news)) := by
 have hx := Bij.put_ext hr ⟨r, cs'.size, q.size⟩
 have hget := grow_get hw b q (q.cells ++ news)
 have hsin := grow_since hw hq (q.cells ++ news)
 have hnew := grow_newest hw hq (q.cells ++ news)
 have hdom := hr.dom b k hb
 have hpb : ∀ i k', (β.put H.next ⟨r, cs'.size, q.size⟩) i = some k' → (i = H.next ∧ k' = ⟨r, cs'.size, q.size⟩) ∨ (i ≠ H.next ∧ β i = some k') := by
  intro i k' hi
  unfold Bij.put at hi
  split at hi
  · rename_i h; cases hi; exact .inl ⟨h, rfl⟩
  · rename_i h; exact .inr ⟨h, hi⟩
 have hmine : q.grp ∈ (H.grow b q (q.cells ++ news)).wrote ∨ H.old ≤ q.grp := by
  rcases Nat.lt_or_ge q.grp H.old with h | h
  · exact .inl (mem_wrote.2 (.inr ⟨rfl, h⟩))
  · exact .inr h
 have wos : w'.os = w.os := ho.elim (fun h => h.1.os) (fun h => h.1.os)
 have wtp : w'.tape = w.tape := ho.elim (fun h => h.1.tape) (fun h => h.1.tape)
 have wou : w'.output = w.output := ho.elim (fun h => h.1.output) (fun h => h.1.output)
 have wsz : w.heap.size ≤ w'.heap.size := ho.elim (fun h => by have := h.1.size; omega) (fun h => by have := h.1.size; omega)
 have hrow' : w'.heap[r]? = some (.cells cs' q.elem (0, 0)) := ho.elim (fun h => by rw [h.2.1]; exact h.1.new) (fun h => by rw [h.2]; exact h.1.new)
 have hother : ∀ i, i < w.heap.size → i ≠ k.blk → w'.heap[i]? = w.heap[i]? := fun i hi hne => ho.elim (fun h => h.1.old i hne) (fun h => h.1.old i hi)
 have back : ∀ i q1, (H.grow b q (q.cells ++ news)).tr.get i = some q1 → (i = H.next ∧ q1 = ⟨q.cells ++ news, q.elem, q.size, q.grp⟩) ∨ (i ≠ H.next ∧ H.tr.get i = some q1) := by
  intro i q1 h
  rw [hget] at h
  by_cases e : i = H.next
  · rw [if_pos e] at h; cases h; exact .inl ⟨e, rfl⟩
  · rw [if_neg e] at h; exact .inr ⟨e, h⟩
 refine ⟨⟨wos, wtp, wou, wsz, hx, Nat.le_succ _, rfl, rfl, fun i hi => mem_wrote.2 (.inl hi), ?_, ?_, ?_, ?_, ?_, fun i h1 h2 => ⟨⟨r, cs'.size, q.size⟩, by have h3 : i < H.next + 1 := h2; unfold Bij.put; rw [if_pos (by omega)]⟩⟩, ⟨?_, ?_, ?_, hr.base.trans hx, fun i o e => (hother i (lt_of_row (hr.fix i o e)) (fun e2 => by rw [e2, hr.apart b k hb] at e; cases e)).trans (hr.fix i o e), fun i k' hi => by
  rcases hpb i k' hi with ⟨_, h1⟩ | ⟨_, h1⟩
  · subst h1
    show baseRow r = none
    rcases ho with h | h
    · rw [h.2.1]; exact hr.apart b k hb
    · rw [h.2]; exact hr.fix_none (Nat.le_refl _)
  · exact hr.apart i k' h1⟩, ⟨Nat.le_succ_of_le hw.od, ?_, ?_, ?_, ?_, ?_, ?_, ?_⟩⟩
 · intro i hi hk
   refine hother i hi (fun e => ?_)
   obtain ⟨h1, h2⟩ := hk b k q hb hq e.symm
   rcases hmine with h | h
   · exact h2 h
   · omega
 · intro i k' hi
   rcases hpb i k' hi with ⟨h1, h2⟩ | ⟨_, h1⟩
   · subst h1
     refine .inr ⟨Nat.le_refl _, Nat.lt_succ_self _, ⟨q.cells ++ news, q.elem, q.size, q.grp⟩, by rw [hget, if_pos rfl], .inr ⟨b, k, q, hb, hq, rfl, fun h4 => ?_, ?_⟩⟩
     · rcases hmine with h | h
       · exact h4.2 h
       · omega
     · rcases ho with ⟨_, h3, _⟩ | ⟨_, h3⟩
       · exact .inr (by rw [h2]; exact h3.symm)
       · exact .inl (by rw [h2]; simp only; omega)
   · exact .inl h1
 · intro i q' hq'
   exact ⟨q', by rw [hget, if_neg (by have := (hw.pos hq').2; omega)]; exact hq', rfl, rfl⟩
 · intro i q' hq' _ _
   exact ⟨by rw [hget, if_neg (by have := (hw.pos hq').2; omega)]; exact hq', hsin q'⟩
 · intro g hg
   rcases mem_wrote.1 hg with h | ⟨rfl, h⟩
   · exact .inl h
   · exact .inr ⟨h, hban, b, k, q, hb, hq, rfl⟩
 · intro i k' hi
   rcases hpb i k' hi with ⟨h1, h2⟩ | ⟨h0, h1⟩
   · subst h1; subst h2
     refine ⟨Nat.lt_succ_self _, ?_, ⟨q.cells ++ news, q.elem, q.size, q.grp⟩, by rw [hget, if_pos rfl], rfl⟩
     simp only
     exact (Array.getElem?_eq_some_iff.1 hrow').1
   · obtain ⟨h2, h3, q', h4, h5⟩ := hr.dom i k' h1
     exact ⟨Nat.lt_succ_of_lt h2, by omega, q', by rw [hget, if_neg h0]; exact h4, h5⟩
 · intro i k' q' hi hq' hl' ha
   rcases hpb i k' hi with ⟨h1, h2⟩ | ⟨h0, h1⟩
   · subst h1; subst h2
     rw [hget, if_pos rfl] at hq'
     cases hq'
     refine RowV.of he hrow' rfl (fun j x hx' => ?_)
     obtain ⟨y, hy, hv⟩ := hp j x hx'
     exact ⟨y, hy, hv.mono hx⟩
   · rw [hget, if_neg h0] at hq'
     rw [hsin] at hl'
     have hold := hr.row i k' q' h1 hq' hl' ha
     by_cases e : k'.blk = k.blk
     · rcases ho with ⟨h2, h3, h3', h4⟩ | ⟨h2, h3⟩
       · have hgq := hr.share i b k' k q' q h1 hb hq' hq e
         have hle := hw.mono i b q' q hq' hq hgq (alone hw hq hn hq' hgq).1 hl'
         obtain ⟨cs2, h8, h9, _⟩ := (hr.row b k q hb hq hl hA).cells he
         have he' : q'.elem < mapE := by
          obtain ⟨cs, h1x, _⟩ := hold
          rcases h1x with ⟨h, _⟩ | ⟨_, es, cl, h, _⟩
          · exact h
          · rw [e, h8] at h; cases h
         obtain ⟨cs, h5, h6, h7⟩ := hold.cells he'
         rw [e] at h5
         rw [h5] at h8
         have h10 : cs = cs2 ∧ q'.elem = q.elem := by
          have := Option.some.inj h8
          exact ⟨by injection this, by injection this⟩
         obtain ⟨h11, helem⟩ := h10
         rw [helem] at h5
         refine RowV.of he' (by rw [e, helem]; exact h2.new) ?_ (fun j x hx' => ?_)
         · rw [h3', ← h9, ← h11]; exact h6
         · obtain ⟨y, hy, hv⟩ := h7 j x hx'
           have hj : j < q'.cells.length := (List.getElem?_eq_some_iff.1 hx').1
           exact ⟨y, by rw [h4 cs h5 j (by omega)]; exact hy, hv.mono hx⟩
       · exact hold.mono hx (h2.old _ (hr.dom i k' h1).2.1)
     · exact hold.mono hx (hother _ (hr.dom i k' h1).2.1 e)
 · intro i i' k1 k2 q1 q2 hi hi' hq1 hq2 hk
   rcases hpb i k1 hi with ⟨h1, h2⟩ | ⟨h0, h1⟩ <;> rcases hpb i' k2 hi' with ⟨h1', h2'⟩ | ⟨h0', h1'⟩
   · rw [h1] at hq1; rw [h1'] at hq2; rw [hq1] at hq2; cases hq2; rfl
   · rw [hget, if_pos h1] at hq1
     rw [hget, if_neg h0'] at hq2
     cases hq1
     rw [h2] at hk
     rcases ho with ⟨_, h3, _⟩ | ⟨_, h3⟩
     · exact (hr.share i' b k2 k q2 q h1' hb hq2 hq (by rw [← hk]; exact h3)).symm
     · have := (hr.dom i' k2 h1').2.1; simp only at hk; omega
   · rw [hget, if_neg h0] at hq1
     rw [hget, if_pos h1'] at hq2
     cases hq2
     rw [h2'] at hk
     rcases ho with ⟨_, h3, _⟩ | ⟨_, h3⟩
     · exact hr.share i b k1 k q1 q h1 hb hq1 hq (by rw [hk]; exact h3)
     · have := (hr.dom i k1 h1).2.1; simp only at hk; omega
   · rw [hget, if_neg h0] at hq1; rw [hget, if_neg h0'] at hq2
     exact hr.share i i' k1 k2 q1 q2 h1 h1' hq1 hq2 hk
 · have := hw.nx; exact ⟨Nat.le_succ_of_le this.1, by show H.next + 1 ≤ _; omega⟩
 · intro i h1 h2
   have := hw.inb i h1 h2
   exact ⟨by show (H.tr.set _ _).inb i = true; rw [Tr.inb_set]; exact this.1, by show (H.grp.set _ _).inb i = true; rw [Tr.inb_set]; exact this.2⟩
 · intro i hi
   have hi' : H.next + 1 ≤ i := hi
   rw [hget, if_neg (by omega)]; exact hw.none i (by omega)
 · intro i q1 hq1
   rw [hnew]
   rcases back i q1 hq1 with ⟨h1, h2⟩ | ⟨h0, h1⟩
   · subst h1; subst h2
     have h3 := hw.grp b q hq
     have h4 := hw.pos hq
     exact ⟨h3.1, by simp only; omega, by simp⟩
   · have h3 := hw.grp i q1 h1
     have h4 := (hw.pos h1).2
     refine ⟨h3.1, h3.2.1, ?_⟩
     split
     · omega
     · exact h3.2.2
 · intro g p hp'
   rw [grow_grp hw hq] at hp'
   have h3 := hw.grp b q hq
   have h4 := hw.pos hq
   by_cases e : g = q.grp
   · rw [if_pos e] at hp'; cases hp'; exact ⟨Nat.lt_succ_self _, by show g < H.next + 1; omega⟩
   · rw [if_neg e] at hp'
     have := hw.new g p hp'
     exact ⟨Nat.lt_succ_of_lt this.1, Nat.lt_succ_of_lt this.2⟩
 · intro i i' q1 q2 hq1 hq2 hg hii hl'
   rw [hsin] at hl'
   rcases back i q1 hq1 with ⟨h1, h2⟩ | ⟨h0, h1⟩ <;> rcases back i' q2 hq2 with ⟨h1', h2'⟩ | ⟨h0', h1'⟩
   · rw [h2, h2']; exact Nat.le_refl _
   · have := (hw.pos h1').2; omega
   · rw [h2'] at hg ⊢
     have h3 := hw.mono i b q1 q h1 hq hg (alone hw hq hn h1 hg).1 hl'
     simp; omega
   · exact hw.mono i i' q1 q2 h1 h1' hg hii hl'
 · intro i h1 h2
   have h2' : i < H.next + 1 := h2
   rw [hget]
   by_cases e : i = H.next
   · exact ⟨_, if_pos e⟩
   · rw [if_neg e]; exact hw.all i h1 (by omega)
end
end
section
open Go.RowKit
variable {bs : Inhabited Base}
theorem zerosL_get (z : List Value) : ∀ (n i : Nat), i < n * z.length → (zerosL z n)[i]? = z[i % z.length]?
 | 0, i, h => by simp at h
 | n + 1, i, h => by
   show (catL z (zerosL z n))[i]? = _
   rw [catL_eq]
   by_cases hi : i < z.length
   · rw [List.getElem?_append_left hi, Nat.mod_eq_of_lt hi]
   · rw [List.getElem?_append_right (by omega), zerosL_get z n (i - z.length) (by rw [Nat.succ_mul] at h; omega)]
     have e : i % z.length = (i - z.length) % z.length := Nat.mod_eq_sub_mod (by omega)
     rw [e]
theorem zerosL_made (z : Array Value) (n : Nat) : (madeCells z (n * z.size)).toList = zerosL z.toList n := by
 apply List.ext_getElem?
 intro i
 by_cases h : i < n * z.size
 · rw [zerosL_get _ _ _ (by simpa using h)]
   have hz : 0 < z.size := by
    rcases Nat.eq_zero_or_pos z.size with e | e
    · rw [e] at h; simp at h
    · exact e
   have hm : i % z.size < z.size := Nat.mod_lt _ hz
   simp [madeCells, h, hm]
 · rw [List.getElem?_eq_none (by simp [madeCells]; omega), List.getElem?_eq_none (by rw [zerosL_len]; simp; omega)]
theorem zerosL_mem (z : List Value) : ∀ (n : Nat) (x : Value), x ∈ zerosL z n → x ∈ z
 | 0, x, h => by cases h
 | n + 1, x, h => by
   have h' : x ∈ catL z (zerosL z n) := h
   rw [catL_eq] at h'
   rcases List.mem_append.1 h' with h | h
   · exact h
   · exact zerosL_mem z n x h
theorem setFold_get (off : Nat) : ∀ (l : List Value) (n : Nat) (cs : Array Value), off + n + l.length ≤ cs.size → ∀ i,
  ((l.zipIdx n).foldl (fun (cs : Array Value) (p : Value × Nat) => cs.setIfInBounds (off + p.2) p.1) cs)[i]? = if off + n ≤ i ∧ i < off + n + l.length then l[i - (off + n)]? else cs[i]?
 | [], n, cs, h, i => by simp; intro h1 h2; omega
 | x :: r, n, cs, h, i => by
   simp only [List.length_cons] at h ⊢
   rw [List.zipIdx_cons, List.foldl_cons, setFold_get off r (n + 1) (cs.setIfInBounds (off + n) x) (by simp; omega) i]
   by_cases h1 : off + n ≤ i ∧ i < off + n + (r.length + 1)
   · rw [if_pos h1]
     by_cases h2 : i = off + n
     · subst h2
       rw [if_neg (by omega), Array.getElem?_setIfInBounds, if_pos rfl, if_pos (by omega)]; simp
     · rw [if_pos (by omega)]
       have e : i - (off + n) = (i - (off + (n + 1))) + 1 := by omega
       rw [e, List.getElem?_cons_succ]
   · rw [if_neg h1, if_neg (by omega), Array.getElem?_setIfInBounds, if_neg (by omega)]
theorem setFold (off : Nat) (l : List Value) (cs : Array Value) (h : off + l.length ≤ cs.size) :
  (l.zipIdx.foldl (fun (cs : Array Value) (p : Value × Nat) => cs.setIfInBounds (off + p.2) p.1) cs).toList = cs.toList.take off ++ (l ++ cs.toList.drop (off + l.length)) := by
 apply List.ext_getElem?
 intro i
 rw [Array.getElem?_toList, setFold_get off l 0 cs (by omega) i, Nat.add_zero]
 have hlen : (cs.toList.take off).length = off := by simp; omega
 by_cases h1 : i < off
 · rw [if_neg (by omega), List.getElem?_append_left (by omega), List.getElem?_take, if_pos h1, Array.getElem?_toList]
 · rw [List.getElem?_append_right (by omega), hlen]
   by_cases h2 : i < off + l.length
   · rw [if_pos (by omega), List.getElem?_append_left (by omega)]
   · rw [if_neg (by omega), List.getElem?_append_right (by omega), List.getElem?_drop, Array.getElem?_toList]
     congr 1; omega
theorem putL_eq (l : List Value) (off : Nat) (vs : List Value) : putL l off vs = l.take off ++ (vs ++ l.drop (off + vs.length)) := by
 unfold putL
 rw [catL_eq, catL_eq, takeN_eq, dropN_eq, lenL_eq]; rfl
theorem VL.put {β : Bij} {l m vs us : List Value} (h : VL β l m) (hv : VL β vs us) (off : Nat) : VL β (putL l off vs) (m.take off ++ (us ++ m.drop (off + us.length))) := by
 rw [putL_eq, ← hv.1]
 exact (h.take off).append (hv.append (h.drop _))
inductive PL (β : Bij) : List (Nat × Value) → List (Nat × Value) → Prop
 | nil : PL β [] []
 | cons {i : Nat} {x y : Value} {l m : List (Nat × Value)} (h : VR β x y) (hl : PL β l m) : PL β ((i, x) :: l) ((i, y) :: m)
theorem fill_run {β : Bij} {place place' : Nat → Option (Nat × Nat)} (hpl : ∀ k, place k = place' k) {parts parts' : List (Nat × Value)} (hp : PL β parts parts') : ∀ (l l' : List Value) (cs : Array Value), VL β l cs.toList → fillL place parts l = some l' →
  ∃ cs', Instr.fill place' cs parts' = some cs' ∧ VL β l' cs'.toList := by
 induction hp with
 | nil => intro l l' cs h e; cases e; exact ⟨cs, rfl, h⟩
 | cons h hl ih =>
   rename_i i x y r r'
   intro l l' cs hv e
   have e' : (match place i with
    | some q => cond (oneL (cellsL x) && Nat.beq (lenL (cellsL x)) q.2 && Nat.ble (Nat.add q.1 q.2) (lenL l)) (fillL place r (putL l q.1 (cellsL x))) none
    | none => none) = some l' := e
   cases hq : place i with
   | none => rw [hq] at e'; cases e'
   | some q =>
     obtain ⟨off, size⟩ := q
     rw [hq] at e'
     simp only at e'
     rcases cond_split e' with ⟨h1, h2⟩ | ⟨_, h2⟩
     · obtain ⟨h1, h3⟩ := and_split h1
       obtain ⟨h1, h4⟩ := and_split h1
       have h3 : off + size ≤ lenL l := of_ble h3
       have h4 := of_beq h4
       rw [lenL_eq] at h3 h4
       have hc := cells_VL h h1
       have hs : y.cells.size = size := by rw [← h4, hc.1]; simp
       have hz : off + y.cells.size ≤ cs.size := by have := hv.1; simp at this; omega
       have hfold := setFold off y.cells.toList cs (by simpa using hz)
       have e2 : (y.cells.zipIdx.foldl (fun cs (x : Value × Nat) => cs.setIfInBounds (off + x.2) x.1) cs).toList = cs.toList.take off ++ (y.cells.toList ++ cs.toList.drop (off + y.cells.toList.length)) := by
        rw [← Array.foldl_toList, Array.toList_zipIdx]; simpa using hfold
       obtain ⟨cs', h5, h6⟩ := ih (putL l off (cellsL x)) l' (y.cells.zipIdx.foldl (fun cs (x : Value × Nat) => cs.setIfInBounds (off + x.2) x.1) cs) (by rw [e2]; exact hv.put hc off) h2
       refine ⟨cs', ?_, h6⟩
       rw [Instr.fill, ← hpl, hq]
       have n1 : ¬ (y.cells.size ≠ size) := by omega
       have n2 : ¬ (off + y.cells.size > cs.size) := by omega
       simp only [hs, ne_eq, not_true_eq_false, decide_false, Bool.false_or]
       rw [hs] at n2
       rw [if_neg (by simpa using n2)]
       exact h5
     · cases h2
end
section
open Go.RowKit
variable {bs : Inhabited Base}
section
variable {P : Program} {A : Nat → Prop} {β : Bij} {H : Hp} {w : World}
theorem run_v {s : Sem Value} {v : Value} {w' : World} (h : s.run P w = .ok v w') : (do pure (Next.value (← s)) : Sem Next).run P w = .ok (.value v) w' := by simp [h]
theorem zeroN_eq {t : TypeId} {l : List Value} (h : zeroN P t = some l) : ∃ i z, P.info? t = some i ∧ i.zero = some z ∧ l = z.cells.toList ∧ z.cells.size = i.size ∧ ∀ x ∈ l, atomB x = true := by
 unfold zeroN at h
 split at h
 · rename_i i hi
   split at h
   · rename_i z hz
     rcases cond_split h with ⟨h1, h2⟩ | ⟨_, h2⟩
     · obtain ⟨h1, h3⟩ := and_split h1
       have h1 := of_beq h1
       rw [lenL_eq] at h1
       cases h2
       exact ⟨i, z, hi, hz, rfl, by simpa using h1, atomL_mem _ h3⟩
     · cases h2
   · cases h
 · cases h
theorem sizeN_eq {t : TypeId} {n : Nat} (h : sizeN P t = some n) : ∃ i, P.info? t = some i ∧ i.size = n := by
 unfold sizeN at h
 obtain ⟨i, h1, h2⟩ := Option.map_eq_some_iff.1 h
 exact ⟨i, h1, h2⟩
theorem bytesN_eq {t : TypeId} {n : Nat} (h : bytesN P t = some n) : ∃ i, P.info? t = some i ∧ i.bytes = n := by
 unfold bytesN at h
 obtain ⟨i, h1, h2⟩ := Option.map_eq_some_iff.1 h
 exact ⟨i, h1, h2⟩
theorem room_does {s : Sem Next} {n : Nx} {e : TypeId} (h : H.next ≤ 131000 → e < mapE → Does P A β H w s n) : Does P A β H w s (roomS H e n) := by
 unfold roomS
 cases hb : (Nat.ble H.next 131000 && Nat.blt e mapE) with
 | false => trivial
 | true => exact h (of_ble (and_split hb).1) (Nat.le_of_ble_eq_true (and_split hb).2)
theorem newS_does (hw : WF H) (hr : HR A β H w) {s : Sem Next} (cells : List Value) (e : TypeId) (size : Nat) (cs : Array Value) (hp : VL β cells cs.toList)
  (hs : s.run P w = .ok (.value (.pointer (some ⟨w.heap.size, 0, none⟩))) (w.alloc (.cells cs e))) : Does P A β H w s (newS H cells e size) := by
 refine room_does (fun hm he => ?_)
 obtain ⟨h1, h2, h3⟩ := made hw hr hm cells e he size cs hp.pre (Grew.alloc w cs e)
 exact ⟨_, _, _, hs, h1, VR.ptr (k := ⟨w.heap.size, cs.size, size⟩) (by unfold Bij.put; simp), h2, h3⟩
theorem newL_does (hw : WF H) (hr : HR A β H w) {s : Sem Next} (cells : List Value) (e : TypeId) (size n c : Nat) (cs : Array Value) (hp : Pre β cells cs) (hn : n ≤ c) (hc : c ≤ 9223372036854775807) (hsz : cs.size = c * size) {w' : World} (hg : Grew w w' cs e)
  (hs : s.run P w = .ok (.value (.slice (some ⟨w.heap.size, 0, none⟩) n c)) w') : Does P A β H w s (newL H cells e size n) := by
 refine room_does (fun hm he => ?_)
 obtain ⟨h1, h2, h3⟩ := made hw hr hm cells e he size cs hp hg
 exact ⟨_, _, _, hs, h1, VR.slice (k := ⟨w.heap.size, cs.size, size⟩) (by unfold Bij.put; simp) hn hc (fun _ => hsz.symm), h2, h3⟩
theorem alloc_does (hw : WF H) (hr : HR A β H w) (e : TypeId) : Does P A β H w (do pure (Next.value (← Instr.alloc e true (.tuple #[])))) (allocS P H e) := by
 unfold allocS
 split
 · rename_i z n hz hn
   obtain ⟨i, zv, h1, h2, rfl, h3, h4⟩ := zeroN_eq hz
   refine newS_does hw hr _ e n zv.cells (VL.atoms β h4) ?_
   simp [Instr.alloc, zeroValue, info_run h1, h2, newVar, newRow]
 · trivial
theorem box_does (hw : WF H) (hr : HR A β H w) (e : TypeId) {x y : Value} (h : VR β x y) : Does P A β H w (do pure (Next.value (← Instr.box e y))) (cond (oneL (cellsL x)) (newS H (cellsL x) e (lenL (cellsL x))) (.bad 88)) := by
 cases ho : oneL (cellsL x) with
 | false => trivial
 | true =>
   refine newS_does hw hr _ e _ y.cells (cells_VL h ho) ?_
   simp [Instr.box, newVar, newRow]
theorem build_run {t : TypeId} {parts parts' : List (Nat × Value)} (hp : PL β parts parts') : Pure P β H (Instr.build t parts'.toArray) (Nx.of 79 H (buildS P t parts)) := by
 refine Pure.of (fun v hv => ?_)
 unfold buildS at hv
 split at hv
 · rename_i z fs hz hf
   obtain ⟨i, zv, h1, h2, rfl, h3, h4⟩ := zeroN_eq hz
   split at hv
   · rename_i pl hpl
     obtain ⟨l', h5, rfl⟩ := Option.map_eq_some_iff.1 hv
     have hu : ∃ fs', P.underlying t = some (.struct fs') ∧ fs'.toList = fs := by
      unfold fieldsS at hf
      split at hf
      · rename_i fs' hu; cases hf; exact ⟨fs', hu, rfl⟩
      · cases hf
     obtain ⟨fs', hu, rfl⟩ := hu
     have hpl' : fs'.toList.mapM (fun f => (P.info? f.type).map fun i => (f.offset, i.size)) = some pl := by
      unfold placesS at hpl; rw [hf] at hpl; exact hpl
     obtain ⟨cs', h6, h7⟩ := fill_run (place' := (pl.toArray[·]?)) (fun k => by rw [nth_eq]; simp) hp _ l' zv.cells (VL.atoms β h4) h5
     refine ⟨.agg cs', .agg (by simpa using h7.1) (by simpa using h7.2), fun w => run_build w t _ cs' ?_⟩
     unfold Program.built
     rw [h1, hu]
     simp only [h2, hpl']
     exact h6
   · cases hv
 · rename_i z hz hf
   obtain ⟨i, zv, h1, h2, rfl, h3, h4⟩ := zeroN_eq hz
   split at hv
   · rename_i size hs
     obtain ⟨⟨n, e⟩, he, hs⟩ := Option.bind_eq_some_iff.1 hs
     obtain ⟨l', h5, rfl⟩ := Option.map_eq_some_iff.1 hv
     have hu := arrayE_eq he
     obtain ⟨ie, h8, rfl⟩ := sizeN_eq hs
     obtain ⟨cs', h6, h7⟩ := fill_run (place' := fun k => some (k * ie.size, ie.size)) (fun k => rfl) hp _ l' zv.cells (VL.atoms β h4) h5
     refine ⟨.agg cs', .agg (by simpa using h7.1) (by simpa using h7.2), fun w => run_build w t _ cs' ?_⟩
     unfold Program.built
     rw [h1, hu]
     simp only [h2, h8]
     exact h6
   · cases hv
 · cases hv
theorem buildSlice_does (hw : WF H) (hr : HR A β H w) {t : TypeId} {len : Nat} {parts parts' : List (Nat × Value)} (hp : PL β parts parts') : Does P A β H w (do pure (Next.value (← Instr.buildSlice t len parts'.toArray))) (buildSliceS P H t len parts) := by
 unfold buildSliceS
 split
 · rename_i e he
   have hu := sliceE_eq he
   split
   · rename_i z size hz hs
     obtain ⟨i, zv, h1, h2, rfl, h3, h4⟩ := zeroN_eq hz
     obtain ⟨i', h5, h6⟩ := sizeN_eq hs
     rw [h1] at h5; cases h5; subst h6
     split
     · rename_i cs hcs
       cases hbb : (Nat.ble (Nat.mul len i.size) 16777216 && Nat.ble len 1000000000) with
       | false => trivial
       | true =>
         obtain ⟨hb, hl9⟩ := and_split hbb
         have hb := of_ble hb
         have hl9 := of_ble hl9
         have hb' : len * i.size ≤ 16777216 := hb
         have hmade : (madeCells zv.cells (len * i.size)).toList = zerosL zv.cells.toList len := by rw [← h3]; exact zerosL_made _ _
         have hat : VL β (zerosL zv.cells.toList len) (madeCells zv.cells (len * i.size)).toList := by
          rw [hmade]; exact VL.atoms β (fun x hx => h4 x (zerosL_mem _ _ _ hx))
         obtain ⟨cs', h7, h8⟩ := fill_run (place' := fun k => some (k * i.size, i.size)) (fun k => rfl) hp _ cs _ hat hcs
         have hlen : cs'.size = len * i.size := by
          have hf : ∀ (parts : List (Nat × Value)) (c c' : Array Value) (pl : Nat → Option (Nat × Nat)), Instr.fill pl c parts = some c' → c'.size = c.size := by
           intro parts
           induction parts with
           | nil => intro c c' pl h; cases h; rfl
           | cons p r ih =>
             intro c c' pl h
             obtain ⟨k, v⟩ := p
             rw [Instr.fill] at h
             split at h
             · cases h
             · split at h
               · cases h
               · rename_i hcond
                 have := ih _ _ _ h
                 rw [this, ← Array.foldl_toList]
                 generalize (v.cells.zipIdx.toList) = L
                 clear this h hcond
                 induction L generalizing c with
                 | nil => rfl
                 | cons x r ih2 => rw [List.foldl_cons, ih2]; simp
          rw [hf _ _ _ _ h7]; simp [madeCells]
         have hrun : (Instr.buildSlice t len parts'.toArray).run P w = .ok (.slice (some ⟨w.heap.size, 0, none⟩) len len) (w.alloc (.cells cs' e)) := by
          have hz' : ¬ (16777216 < len * i.size) := by omega
          by_cases h0 : len * i.size = 0
          · have h7' : Instr.fill (fun k => some (k * i.size, i.size)) #[] parts' = some cs' := by
             rw [h0] at h7; simpa [madeCells, Array.range_zero'] using h7
            simp [Instr.buildSlice, under_run hu, sizeOf, info_run h1, h0, h7', newRow, Array.range_zero']
          · have h7' : Instr.fill (fun k => some (k * i.size, i.size)) ((Array.range (len * i.size)).map (zv.cells[· % zv.cells.size]!)) parts' = some cs' := h7
            simp [Instr.buildSlice, under_run hu, sizeOf, info_run h1, h0, hz', zeroValue, h2, h7', newRow]
         exact newL_does hw hr cs e i.size len len cs' h8.pre (Nat.le_refl _) (by omega) hlen (Grew.alloc w cs' e) (run_v hrun)
     · trivial
   · trivial
 · trivial
theorem makeSlice_does (hw : WF H) (hr : HR A β H w) {t : TypeId} {l c l' c' : Value} (hl : VR β l l') (hc : VR β c c') : Does P A β H w (do pure (Next.value (← Instr.makeSlice t l' c'))) (makeSliceS P H t l c) := by
 unfold makeSliceS
 split
 · rename_i e n m he hn hm
   have hu := sliceE_eq he
   obtain ⟨kl, rfl⟩ := asNat_eq hn
   obtain ⟨kc, rfl⟩ := asNat_eq hm
   obtain rfl := hl.int
   obtain rfl := hc.int
   split
   · rename_i z size bytes hz hs hb
     obtain ⟨i, zv, h1, h2, rfl, h3, h4⟩ := zeroN_eq hz
     obtain ⟨i', h5, h6⟩ := sizeN_eq hs
     rw [h1] at h5; cases h5; subst h6
     obtain ⟨i', h5, h6⟩ := bytesN_eq hb
     rw [h1] at h5; cases h5; subst h6
     cases hcc : (Nat.ble n m && (Nat.ble (Nat.mul m i.bytes) 1000000000 && Nat.ble m 1000000000)) with
     | false => trivial
     | true =>
       obtain ⟨h7, h8⟩ := and_split hcc
       obtain ⟨h8, h9⟩ := and_split h8
       have h7 := of_ble h7
       have h8 : m * i.bytes ≤ 1000000000 := of_ble h8
       have h9 := of_ble h9
       have hrun := run_make (P := P) w t e i zv hu h1 h2 kl kc (n : Int) (m : Int) (by omega) (by omega) (by rw [← Int.natCast_mul, Nat.mul_comm]; omega) (by omega)
       refine newL_does hw hr _ e i.size n m (madeCells zv.cells (m * i.size)) ?_ h7 (by omega) (by simp [madeCells]) (Grew.alloc w _ e) (run_v (by simpa using hrun))
       intro j x hx
       have hmade : (madeCells zv.cells (m * i.size)).toList = zerosL zv.cells.toList m := by rw [← h3]; exact zerosL_made _ _
       have hj : j < n * i.size := by
        have := (List.getElem?_eq_some_iff.1 hx).1
        rw [zerosL_len] at this
        simpa [h3] using this
       have hj' : j < m * i.size := Nat.lt_of_lt_of_le hj (Nat.mul_le_mul_right _ h7)
       rw [zerosL_get _ _ _ (by simpa [h3] using hj)] at hx
       have h10 : (madeCells zv.cells (m * i.size)).toList[j]? = some x := by
        rw [hmade, zerosL_get _ _ _ (by simpa [h3] using hj')]; exact hx
       exact ⟨x, by simpa using h10, .atom (h4 x (List.mem_of_getElem? hx))⟩
   · trivial
 · trivial
theorem store_does (hw : WF H) (hr : HR A β H w) {t : TypeId} {x y v u : Value} (h : VR β x y) (hv : VR β v u) (hA : ∀ b q, placeOf x = some b → H.tr.get b = some q → memN H.ban q.grp = false → A q.grp) :
  Does P A β H w (do Instr.storeAt t y u; pure Next.skip) (storeS P H t v x) := by
 unfold storeS
 split
 · rename_i b off
   obtain ⟨k, hk, rfl⟩ := h.ptr_inv (sp := none)
   unfold storeB
   split
   · rename_i q hq
     obtain ⟨h1, h2, h3⟩ := read_inv hq
     split
     · rename_i n hn
       cases hcc : (oneL (cellsL v) && Nat.beq (lenL (cellsL v)) n && (Nat.ble (Nat.add off n) (lenL q.cells) && Nat.beq (H.newest q) b)) with
       | false => trivial
       | true =>
         obtain ⟨h4, h5⟩ := and_split hcc
         obtain ⟨h4, h6⟩ := and_split h4
         obtain ⟨h5, h7⟩ := and_split h5
         have h5 : off + n ≤ lenL q.cells := of_ble h5
         have h6 := of_beq h6
         have h7 := of_beq h7
         rw [lenL_eq] at h5 h6
         have hc := cells_VL hv h4
         obtain ⟨cs, h8, h9, h10⟩ := (hr.row b k q hk h1 h2 (hA b q rfl h1 h3)).cells (read_elem hq)
         have hcs : q.cells.length ≤ cs.size := by
          rcases Nat.eq_zero_or_pos q.cells.length with e | e
          · omega
          · obtain ⟨y, hy, _⟩ := h10 (q.cells.length - 1) _ (List.getElem?_eq_getElem (by omega))
            have := (Array.getElem?_eq_some_iff.1 hy).1; omega
         have hul : u.cells.toList.length = n := by rw [← hc.1, h6]
         have hst := run_storeCells_at P k.blk off q.elem u.cells.toList 0 cs w h8 (by omega) (hc.ones h4)
         simp only [Nat.add_zero] at hst
         obtain ⟨h11, h12, h13⟩ := stored hw hr hk h1 h7 h3 (read_elem hq) (putL q.cells off (cellsL v))
          (cs.toList.take off ++ u.cells.toList ++ cs.toList.drop (off + u.cells.toList.length)).toArray (by simp; have := hul; simp at this; omega) (by
            intro j x hx
            rw [putL_eq] at hx
            have hpre : VL β (q.cells.take off) ((cs.toList.take off)) ∧ True := ⟨⟨by simp; omega, fun i x y hx hy => by
             rw [List.getElem?_take] at hx hy
             split at hx
             · rename_i hi
               rw [if_pos hi, Array.getElem?_toList] at hy
               obtain ⟨y', hy', hv'⟩ := h10 i x hx
               rw [hy'] at hy; cases hy; exact hv'
             · cases hx⟩, trivial⟩
            by_cases hj : j < off + n
            · have h14 := hpre.1.append hc
              have hx' : (q.cells.take off ++ cellsL v)[j]? = some x := by
               rw [← List.append_assoc, List.getElem?_append_left (by simp; omega)] at hx; exact hx
              obtain ⟨y, hy, hv'⟩ := h14.get hx'
              refine ⟨y, ?_, hv'⟩
              have : (cs.toList.take off ++ u.cells.toList ++ cs.toList.drop (off + u.cells.toList.length))[j]? = some y := by
               rw [List.getElem?_append_left (by simp; have := hul; simp at this; omega)]; exact hy
              simpa using this
            · have hx' : q.cells[j]? = some x := by
               rw [← List.append_assoc, List.getElem?_append_right (by simp; omega), List.getElem?_drop] at hx
               have e : off + (cellsL v).length + (j - (q.cells.take off ++ cellsL v).length) = j := by simp; omega
               rw [e] at hx; exact hx
              obtain ⟨y, hy, hv'⟩ := h10 j x hx'
              refine ⟨y, ?_, hv'⟩
              have : (cs.toList.take off ++ u.cells.toList ++ cs.toList.drop (off + u.cells.toList.length))[j]? = some y := by
               rw [List.getElem?_append_right (by simp; have := hul; simp at this; omega), List.getElem?_drop, Array.getElem?_toList]
               have e : off + u.cells.toList.length + (j - (cs.toList.take off ++ u.cells.toList).length) = j := by simp; have := hul; simp at this; omega
               rw [e]; exact hy
              simpa using this) (Over.setRow w k.blk cs _ q.elem h8)
         refine ⟨_, ?_, h11, h12, h13⟩
         have hz := size_run (P := P) hn w
         have hul' : u.cells.size = n := by simpa using hul
         simp only [Instr.storeAt, Instr.sureAddr, Sem.run_bind, Sem.run_pure, Result.andThen_ok, storeVar, hz, hul', ne_eq, not_true_eq_false, if_false, hst]
     · trivial
   · trivial
 · trivial
end
end
end Go.Proofs.Ytkgbifbbpmdpgaa.Sh
