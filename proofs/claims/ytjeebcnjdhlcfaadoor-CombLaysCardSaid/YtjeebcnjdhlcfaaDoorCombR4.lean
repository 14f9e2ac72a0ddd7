/- The document's Lay: which row is next. -/
import Derived.Test.YtjeebcnjdhlcfaaDoorCombR3
namespace Go.Proofs.YtjeebcnjdhlcfaaDoor
open Go.RowKit
set_option linter.unusedVariables false
set_option linter.unusedSimpArgs false

theorem Tryd.infoBool : (Tryd.prog.info? 4).map (fun i => (i.zero, i.size, i.bytes)) = some (some (.bool false), 1, 1) := by kernel_rfl

/-- of the first k rows that are not laid yet: the one to be laid first -/
def Pick (rows : List (List Pr)) (lf : Nat → Bool) (k : Nat) (x : Int) : Prop :=
  (x = -1 ∧ ∀ j, j < k → lf j = false → rowAt rows j = []) ∨ ∃ i : Nat, x = (i : Int) ∧ i < k ∧ lf i = false ∧ rowAt rows i ≠ [] ∧ ∀ j, j < k → lf j = false → rowAt rows j ≠ [] → j = i ∨ Ahead rows i j
variable {rows : List (List Pr)} {lf : Nat → Bool} {k : Nat} {x : Int}
theorem Pick.skip (h : Pick rows lf k x) (hs : lf k = true ∨ rowAt rows k = []) : Pick rows lf (k + 1) x := by
  rcases h with ⟨e, h⟩ | ⟨i, e, h1, h2, h3, h4⟩
  · exact .inl ⟨e, fun j hj hl => by
      by_cases ej : j = k
      · subst ej
        rcases hs with hs | hs
        · rw [hs] at hl; cases hl
        · exact hs
      · exact h j (by omega) hl⟩
  · exact .inr ⟨i, e, by omega, h2, h3, fun j hj hl hn => by
      by_cases ej : j = k
      · subst ej
        rcases hs with hs | hs
        · rw [hs] at hl; cases hl
        · exact absurd hs hn
      · exact h4 j (by omega) hl hn⟩
theorem Pick.first (h : Pick rows lf k (-1)) (hl : lf k = false) (hn : rowAt rows k ≠ []) : Pick rows lf (k + 1) (k : Int) := by
  rcases h with ⟨_, h⟩ | ⟨i, e, _⟩
  · exact .inr ⟨k, rfl, by omega, hl, hn, fun j hj hlj hnj => by
      by_cases ej : j = k
      · exact .inl ej
      · exact absurd (h j (by omega) hlj) hnj⟩
  · omega
theorem Pick.better {i : Nat} (h : Pick rows lf k (i : Int)) (hl : lf k = false) (hn : rowAt rows k ≠ []) (hb : (rowAt rows i).length < (rowAt rows k).length) : Pick rows lf (k + 1) (k : Int) := by
  rcases h with ⟨e, h⟩ | ⟨i', e, h1, h2, h3, h4⟩
  · omega
  · obtain rfl : i = i' := by omega
    exact .inr ⟨k, rfl, by omega, hl, hn, fun j hj hlj hnj => by
      by_cases ej : j = k
      · exact .inl ej
      · right
        rcases h4 j (by omega) hlj hnj with e2 | e2
        · subst e2; exact .inl hb
        · unfold Ahead at e2 ⊢; omega⟩
theorem Pick.stay {i : Nat} (h : Pick rows lf k (i : Int)) (hl : lf k = false) (hb : ¬ (rowAt rows i).length < (rowAt rows k).length) : Pick rows lf (k + 1) (i : Int) := by
  rcases h with ⟨e, h⟩ | ⟨i', e, h1, h2, h3, h4⟩
  · omega
  · obtain rfl : i = i' := by omega
    exact .inr ⟨i, rfl, by omega, h2, h3, fun j hj hlj hnj => by
      by_cases ej : j = k
      · subst ej; right; unfold Ahead; omega
      · exact h4 j (by omega) hlj hnj⟩
def takenTo (rows : List (List Pr)) (t : Nat) (j : Nat) : Bool := decide (j ∈ (orderS rows).take t)
theorem pick_none {t : Nat} (ht : t ≤ (orderS rows).length) (h : Pick rows (takenTo rows t) rows.length (-1)) : t = (orderS rows).length := by
  rcases h with ⟨_, h⟩ | ⟨i, e, _⟩
  · rcases Nat.lt_or_ge t (orderS rows).length with hlt | hge
    · obtain ⟨hp, hm⟩ := orderS_is rows
      have hin := (hm (orderS rows)[t]).1 (List.getElem_mem hlt)
      have hnot : takenTo rows t (orderS rows)[t] = false := by
        unfold takenTo
        rw [decide_eq_false_iff_not]
        intro hc
        rw [← List.take_append_drop t (orderS rows), List.pairwise_append] at hp
        have hd : (orderS rows)[t] ∈ (orderS rows).drop t := by rw [List.drop_eq_getElem_cons hlt]; exact List.mem_cons_self
        exact ahead_irr rows _ (hp.2.2 _ hc _ hd)
      exact absurd (h _ hin.1 hnot) hin.2
    · omega
  · omega
theorem pick_next {t i : Nat} (ht : t ≤ (orderS rows).length) (h : Pick rows (takenTo rows t) rows.length (i : Int)) : ∃ hlt : t < (orderS rows).length, (orderS rows)[t] = i := by
  rcases h with ⟨e, _⟩ | ⟨i', e, h1, h2, h3, h4⟩
  · omega
  · obtain rfl : i = i' := by omega
    obtain ⟨hp, hm⟩ := orderS_is rows
    have hi : i ∈ orderS rows := (hm i).2 ⟨h1, h3⟩
    have hni : ¬ i ∈ (orderS rows).take t := by unfold takenTo at h2; simpa using h2
    have hid : i ∈ (orderS rows).drop t := by
      rw [← List.take_append_drop t (orderS rows), List.mem_append] at hi
      exact hi.resolve_left hni
    have hlt : t < (orderS rows).length := by
      rcases Nat.lt_or_ge t (orderS rows).length with hlt | hge
      · exact hlt
      · rw [List.drop_eq_nil_of_le hge] at hid; cases hid
    refine ⟨hlt, ?_⟩
    have hin := (hm (orderS rows)[t]).1 (List.getElem_mem hlt)
    have hsp := hp
    rw [← List.take_append_drop t (orderS rows), List.pairwise_append] at hsp
    have hd : (orderS rows)[t] ∈ (orderS rows).drop t := by rw [List.drop_eq_getElem_cons hlt]; exact List.mem_cons_self
    have hnot : takenTo rows t (orderS rows)[t] = false := by
      unfold takenTo
      rw [decide_eq_false_iff_not]
      intro hc
      exact ahead_irr rows _ (hsp.2.2 _ hc _ hd)
    rcases h4 _ hin.1 hnot hin.2 with e2 | e2
    · exact e2
    · have hsd := hsp.2.1
      rw [List.drop_eq_getElem_cons hlt] at hsd hid
      rcases List.mem_cons.1 hid with e3 | e3
      · exact e3.symm
      · exact absurd ((List.pairwise_cons.1 hsd).1 _ e3) (ahead_asym rows _ _ e2)
theorem taken_next {t : Nat} (hlt : t < (orderS rows).length) (j : Nat) : takenTo rows (t + 1) j = (takenTo rows t j || decide (j = (orderS rows)[t])) := by
  unfold takenTo
  rw [List.take_succ_eq_append_getElem hlt, Bool.eq_iff_iff]
  simp only [decide_eq_true_eq, Bool.or_eq_true, List.mem_append, List.mem_singleton]
theorem taken_zero (j : Nat) : takenTo rows 0 j = false := by simp [takenTo]
theorem set_self0 (l : List Int) (i : Nat) (h : l.getD i 0 = 0) : l.set i 0 = l := by
  apply List.ext_getElem (by simp)
  intro j h1 h2
  rw [List.getElem_set]
  split
  · rename_i e; subst e
    rw [List.getD_eq_getElem?_getD, List.getElem?_eq_getElem h2] at h
    exact h.symm
  · rfl

theorem RefW.start (w w2 : World) (n : Nat) (hn : n ≤ maxLen) (hb : Below w.heap.size w w2) (hlt : w.heap.size < w2.heap.size) (hh0 : w2.heap[w.heap.size]? = some (.cells #[.slice none 0 0, .slice none 0 0, .slice none 0 0] 30 (0, 0))) :
    RefW (((w2.alloc (.cells (madeCells #[.int .i64 0] n) 3)).alloc (.cells #[.slice (some ⟨w2.heap.size, 0, none⟩) n n, .slice none 0 0, .slice none 0 0] 30)).alloc (.cells (madeCells #[.bool false] n) 4))
      w.heap.size w.heap.size (w2.heap.size + 1) (w2.heap.size + 1 + 1) n (fun _ => false) [] (.slice none 0 0) (.slice none 0 0) (.slice (some ⟨w2.heap.size, 0, none⟩) n n) (.slice none 0 0) (.slice none 0 0) (List.replicate n 0) [] [] := by
  have ho := made_own w2 w.heap.size n hb.size hn
  have b0 : (((w2.alloc (.cells (madeCells #[.int .i64 0] n) 3)).alloc (.cells #[.slice (some ⟨w2.heap.size, 0, none⟩) n n, .slice none 0 0, .slice none 0 0] 30)).alloc (.cells (madeCells #[.bool false] n) 4)).heap[w2.heap.size]? = some (.cells (madeCells #[.int .i64 0] n) 3 (0, 0)) := by
    rw [Below.heap_alloc _ _ _ (by simp; omega), Below.heap_alloc _ _ _ (by simp), heap_alloc_new]
  have b1 : (((w2.alloc (.cells (madeCells #[.int .i64 0] n) 3)).alloc (.cells #[.slice (some ⟨w2.heap.size, 0, none⟩) n n, .slice none 0 0, .slice none 0 0] 30)).alloc (.cells (madeCells #[.bool false] n) 4)).heap[w2.heap.size + 1]? = some (.cells #[.slice (some ⟨w2.heap.size, 0, none⟩) n n, .slice none 0 0, .slice none 0 0] 30 (0, 0)) := by
    rw [Below.heap_alloc _ _ _ (by simp)]
    have := heap_alloc_new (w2.alloc (.cells (madeCells #[.int .i64 0] n) 3)) (.cells #[.slice (some ⟨w2.heap.size, 0, none⟩) n n, .slice none 0 0, .slice none 0 0] 30)
    simpa using this
  have b2 : (((w2.alloc (.cells (madeCells #[.int .i64 0] n) 3)).alloc (.cells #[.slice (some ⟨w2.heap.size, 0, none⟩) n n, .slice none 0 0, .slice none 0 0] 30)).alloc (.cells (madeCells #[.bool false] n) 4)).heap[w2.heap.size + 2]? = some (.cells (madeCells #[.bool false] n) 4 (0, 0)) := by
    have := heap_alloc_new ((w2.alloc (.cells (madeCells #[.int .i64 0] n) 3)).alloc (.cells #[.slice (some ⟨w2.heap.size, 0, none⟩) n n, .slice none 0 0, .slice none 0 0] 30)) (.cells (madeCells #[.bool false] n) 4)
    simpa using this
  have br : (((w2.alloc (.cells (madeCells #[.int .i64 0] n) 3)).alloc (.cells #[.slice (some ⟨w2.heap.size, 0, none⟩) n n, .slice none 0 0, .slice none 0 0] 30)).alloc (.cells (madeCells #[.bool false] n) 4)).heap[w.heap.size]? = some (.cells #[.slice none 0 0, .slice none 0 0, .slice none 0 0] 30 (0, 0)) := by
    rw [Below.heap_alloc _ _ _ (by simp; omega), Below.heap_alloc _ _ _ (by simp; omega), Below.heap_alloc _ _ _ hlt]; exact hh0
  have hs : (((w2.alloc (.cells (madeCells #[.int .i64 0] n) 3)).alloc (.cells #[.slice (some ⟨w2.heap.size, 0, none⟩) n n, .slice none 0 0, .slice none 0 0] 30)).alloc (.cells (madeCells #[.bool false] n) 4)).heap.size = w2.heap.size + 3 := by simp
  generalize (((w2.alloc (.cells (madeCells #[.int .i64 0] n) 3)).alloc (.cells #[.slice (some ⟨w2.heap.size, 0, none⟩) n n, .slice none 0 0, .slice none 0 0] 30)).alloc (.cells (madeCells #[.bool false] n) 4)) = w3 at hs b0 b1 b2 br ⊢
  refine ⟨br, fun j => free_of_block b1, by omega, by omega, by omega, cell_of_row _ _ _ _ _ _ b1, cell_of_row _ _ _ _ _ _ b1, cell_of_row _ _ _ _ _ _ b1, ?_, World.ownsRow_nil _ _ _ _, World.ownsRow_nil _ _ _ _, by omega, by omega, fun j hj => ?_, fun j => free_of_block b2, fun g hg => absurd hg (by simp), ?_⟩
  · refine row_kept ho (fun k hk => ?_)
    cases hk
    rw [heap_alloc_new]; exact b0
  · rw [cell_of_row _ _ _ _ _ _ b2]
    have hsz : (madeCells #[Value.bool false] n).size = n := by simp [madeCells]
    rw [Array.getElem?_eq_getElem (by omega)]
    congr 1
    unfold madeCells
    simp [Nat.mod_one]
  · intro i j hij k hi hj
    have hv : ∀ i, own6 (some w.heap.size) (some (w2.heap.size + 1)) (Value.slice (some ⟨w2.heap.size, 0, none⟩) n n).ownBlock (Value.slice none 0 0).ownBlock (Value.slice none 0 0).ownBlock (some (w2.heap.size + 2)) i = some k →
        (i = 0 ∧ k = w.heap.size) ∨ (i = 1 ∧ k = w2.heap.size + 1) ∨ (i = 2 ∧ k = w2.heap.size) ∨ (i = 5 ∧ k = w2.heap.size + 2) := by
      intro i hi
      match i, hi with
      | 0, hi => injection hi with e; omega
      | 1, hi => injection hi with e; omega
      | 2, hi => injection hi with e; simp at e; omega
      | 3, hi => cases hi
      | 4, hi => cases hi
      | 5, hi => injection hi with e; omega
      | (m + 6), hi => cases hi
    have h1 := hv i hi
    have h2 := hv j hj
    omega

/-- the memory, and that what lay there before stands -/
def RefX (w0 w : World) (B r c L n : Nat) (lf : Nat → Bool) (gs : List Nat) (cv1 cv2 bv vv kv : Value) (bs chk val : List Int) : Prop := RefW w B r c L n lf gs cv1 cv2 bv vv kv bs chk val ∧ Below B w0 w
section
variable {w0 w : World} {B r c L n : Nat} {lf : Nat → Bool} {gs : List Nat} {cv1 cv2 bv vv kv : Value} {bs chk val : List Int}
theorem RefX.lit (h : RefX w0 w B r c L n lf gs cv1 cv2 bv vv kv bs chk val) (T : TypeId) : RefX w0 (w.alloc (.cells #[.int .i64 0] T)) B r c L n lf (w.heap.size :: gs) cv1 cv2 bv vv kv bs chk val :=
  ⟨h.1.lit T, h.2.alloc (by have := h.1.cB; have := h.1.clt; omega) _⟩
theorem RefX.drew (h : RefX w0 w B r c L n lf gs cv1 cv2 bv vv kv bs chk val) : RefX w0 w.drew B r c L n lf gs cv1 cv2 bv vv kv bs chk val := ⟨h.1.drew, h.2.drew⟩
theorem RefX.drewN (h : RefX w0 w B r c L n lf gs cv1 cv2 bv vv kv bs chk val) (q : Nat) : RefX w0 (w.drewN q) B r c L n lf gs cv1 cv2 bv vv kv bs chk val := ⟨h.1.below (Go.below_drewN (Below.refl _ _) q), Go.below_drewN h.2 q⟩
theorem RefX.put (h : RefX w0 w B r c L n lf gs cv1 cv2 bv vv kv bs chk val) : RefX w0 ((w.setCell ⟨c, 2, none⟩ kv).setCell ⟨c, 1, none⟩ vv) B r c L n lf [] vv kv bv vv kv bs chk val :=
  ⟨((h.1.putK kv).putV vv).forget, (h.2.setCell (p := ⟨c, 2, none⟩) h.1.cB _).setCell (p := ⟨c, 1, none⟩) h.1.cB _⟩
theorem RefX.putK (h : RefX w0 w B r c L n lf gs cv1 cv2 bv vv kv bs chk val) : RefX w0 (w.setCell ⟨c, 2, none⟩ kv) B r c L n lf gs cv1 kv bv vv kv bs chk val := ⟨h.1.putK kv, h.2.setCell (p := ⟨c, 2, none⟩) h.1.cB _⟩
theorem RefX.putV (h : RefX w0 w B r c L n lf gs cv1 cv2 bv vv kv bs chk val) : RefX w0 (w.setCell ⟨c, 1, none⟩ vv) B r c L n lf gs vv cv2 bv vv kv bs chk val := ⟨h.1.putV vv, h.2.setCell (p := ⟨c, 1, none⟩) h.1.cB _⟩
theorem RefX.forget (h : RefX w0 w B r c L n lf gs cv1 cv2 bv vv kv bs chk val) : RefX w0 w B r c L n lf [] cv1 cv2 bv vv kv bs chk val := ⟨h.1.forget, h.2⟩
theorem RefX.setB {g cap n' : Nat} (h : RefX w0 w B r c L n lf gs cv1 cv2 (.slice (some ⟨g, 0, none⟩) n' cap) vv kv bs chk val) (hn : bs.length = n') (j : Nat) (x : Int) : RefX w0 (w.setCell ⟨g, j, none⟩ (.int .i64 x)) B r c L n lf gs cv1 cv2 (.slice (some ⟨g, 0, none⟩) n' cap) vv kv (bs.set j x) chk val := by
  subst hn; exact ⟨h.1.setB j x, h.1.fresh h.2 (j := 2) rfl _⟩
theorem RefX.setV {g cap n' : Nat} (h : RefX w0 w B r c L n lf gs cv1 cv2 bv (.slice (some ⟨g, 0, none⟩) n' cap) kv bs chk val) (hn : val.length = n') (j : Nat) (x : Int) : RefX w0 (w.setCell ⟨g, j, none⟩ (.int .i64 x)) B r c L n lf gs cv1 cv2 bv (.slice (some ⟨g, 0, none⟩) n' cap) kv bs chk (val.set j x) := by
  subst hn; exact ⟨h.1.setV j x, h.1.fresh h.2 (j := 3) rfl _⟩
theorem RefX.setK {g cap n' : Nat} (h : RefX w0 w B r c L n lf gs cv1 cv2 bv vv (.slice (some ⟨g, 0, none⟩) n' cap) bs chk val) (hn : chk.length = n') (j : Nat) (x : Int) : RefX w0 (w.setCell ⟨g, j, none⟩ (.int .i64 x)) B r c L n lf gs cv1 cv2 bv vv (.slice (some ⟨g, 0, none⟩) n' cap) bs (chk.set j x) val := by
  subst hn; exact ⟨h.1.setK j x, h.1.fresh h.2 (j := 4) rfl _⟩
theorem RefX.atB {g cap n' : Nat} (h : RefX w0 w B r c L n lf gs cv1 cv2 (.slice (some ⟨g, 0, none⟩) n' cap) vv kv bs chk val) (hn : bs.length = n') (j : Nat) (hj : j < n') : w.cell? ⟨g, j, none⟩ = some (.int .i64 (bs.getD j 0)) ∧ w.frozen? ⟨g, j, none⟩ = false := by
  subst hn
  refine ⟨?_, h.1.ob.frozenAt j⟩
  rw [h.1.ob.cellAt j (by omega), List.getElem?_map, List.getElem?_eq_getElem hj, List.getD_eq_getElem?_getD, List.getElem?_eq_getElem hj]; rfl
theorem RefX.atV {g cap n' : Nat} (h : RefX w0 w B r c L n lf gs cv1 cv2 bv (.slice (some ⟨g, 0, none⟩) n' cap) kv bs chk val) (hn : val.length = n') (j : Nat) (hj : j < n') : w.cell? ⟨g, j, none⟩ = some (.int .i64 (val.getD j 0)) ∧ w.frozen? ⟨g, j, none⟩ = false := by
  subst hn
  refine ⟨?_, h.1.ov.frozenAt j⟩
  rw [h.1.ov.cellAt j (by omega), List.getElem?_map, List.getElem?_eq_getElem hj, List.getD_eq_getElem?_getD, List.getElem?_eq_getElem hj]; rfl
theorem RefX.atK {g cap n' : Nat} (h : RefX w0 w B r c L n lf gs cv1 cv2 bv vv (.slice (some ⟨g, 0, none⟩) n' cap) bs chk val) (hn : chk.length = n') (j : Nat) (hj : j < n') : w.cell? ⟨g, j, none⟩ = some (.int .i64 (chk.getD j 0)) ∧ w.frozen? ⟨g, j, none⟩ = false := by
  subst hn
  refine ⟨?_, h.1.ok.frozenAt j⟩
  rw [h.1.ok.cellAt j (by omega), List.getElem?_map, List.getElem?_eq_getElem hj, List.getD_eq_getElem?_getD, List.getElem?_eq_getElem hj]; rfl
theorem RefX.setL (h : RefX w0 w B r c L n lf gs cv1 cv2 bv vv kv bs chk val) (q : Nat) (lf' : Nat → Bool) (hf : ∀ k, lf' k = (lf k || decide (k = q))) : RefX w0 (w.setCell ⟨L, q, none⟩ (.bool true)) B r c L n lf' gs cv1 cv2 bv vv kv bs chk val :=
  ⟨h.1.setL q lf' hf, h.1.fresh h.2 (j := 5) rfl _⟩
end
theorem stepX_pushV {ops : Array Oper} {o : Oper} {a : Act} {K : Act → World → Prop} {Q : Exit → Act → World → Prop} {E : Prop} {i : TypeInfo} {w0 W : World} {B r c L n : Nat} {lf : Nat → Bool} {gs : List Nat} {cv1 cv2 bv vv kv : Value} {bs chk val : List Int} (hi : Tryd.prog.info? 3 = some i) (hz : i.zero = some (.int .i64 0)) (hsz : i.size = 1) (hby : i.bytes = 8)
    (hgd : o.guard = none) (s x : Operand) (ho : o.op = .call { callee := .builtin .append, args := #[s, x], argTypes := #[28, 28] })
    (h : RefX w0 W B r c L n lf gs cv1 cv2 bv vv kv bs chk val) (b : Nat) (hs : a.eval s = vv) (hx : a.eval x = .slice (some ⟨b, 0, none⟩) 1 1) (hb : b ∈ gs) (lk : Nat) (hlk : val.length = lk) (hl : lk ≤ 1000000)
    (hK : ∀ g cap W', RefX w0 W' B r c L n lf gs cv1 cv2 bv (.slice (some ⟨g, 0, none⟩) (lk + 1) cap) kv bs chk (val ++ [0]) → K (a.put o.dst (.slice (some ⟨g, 0, none⟩) (lk + 1) cap)) W') :
    if Region.wanted o (yielded ops a.tmps) = true then Oper.wp Tryd.prog o a W K Q else E := by
  subst hlk
  have hB : B ≤ W.heap.size := by have := h.1.cB; have := h.1.clt; omega
  refine step_pushV hi hz hsz hby hgd s x ho h.1 hB b hs hx hb hl (fun y W' hR hg => ?_)
  have hX : RefX w0 W' B r c L n lf gs cv1 cv2 bv y kv bs chk (val ++ [0]) := ⟨hR, h.2.grown hg hB (fun k hk => h.1.ge 3 k hk)⟩
  have e2 : (val ++ [0]).length = val.length + 1 := by rw [List.length_append]; rfl
  obtain ⟨g, cap, rfl⟩ : ∃ g cap, y = .slice (some ⟨g, 0, none⟩) (val.length + 1) cap := by
    rcases hR.ov.2 with ⟨_, h0⟩ | ⟨g, cap, cur, e, _⟩
    · rw [e2] at h0; omega
    · exact ⟨g, cap, by rw [e, e2]⟩
  exact hK g cap W' hX
theorem stepX_pushK {ops : Array Oper} {o : Oper} {a : Act} {K : Act → World → Prop} {Q : Exit → Act → World → Prop} {E : Prop} {i : TypeInfo} {w0 W : World} {B r c L n : Nat} {lf : Nat → Bool} {gs : List Nat} {cv1 cv2 bv vv kv : Value} {bs chk val : List Int} (hi : Tryd.prog.info? 3 = some i) (hz : i.zero = some (.int .i64 0)) (hsz : i.size = 1) (hby : i.bytes = 8)
    (hgd : o.guard = none) (s x : Operand) (ho : o.op = .call { callee := .builtin .append, args := #[s, x], argTypes := #[28, 28] })
    (h : RefX w0 W B r c L n lf gs cv1 cv2 bv vv kv bs chk val) (b : Nat) (hs : a.eval s = kv) (hx : a.eval x = .slice (some ⟨b, 0, none⟩) 1 1) (hb : b ∈ gs) (lk : Nat) (hlk : chk.length = lk) (hl : lk ≤ 1000000)
    (hK : ∀ g cap W', RefX w0 W' B r c L n lf gs cv1 cv2 bv vv (.slice (some ⟨g, 0, none⟩) (lk + 1) cap) bs (chk ++ [0]) val → K (a.put o.dst (.slice (some ⟨g, 0, none⟩) (lk + 1) cap)) W') :
    if Region.wanted o (yielded ops a.tmps) = true then Oper.wp Tryd.prog o a W K Q else E := by
  subst hlk
  have hB : B ≤ W.heap.size := by have := h.1.cB; have := h.1.clt; omega
  refine step_pushK hi hz hsz hby hgd s x ho h.1 hB b hs hx hb hl (fun y W' hR hg => ?_)
  have hX : RefX w0 W' B r c L n lf gs cv1 cv2 bv vv y bs (chk ++ [0]) val := ⟨hR, h.2.grown hg hB (fun k hk => h.1.ge 4 k hk)⟩
  have e2 : (chk ++ [0]).length = chk.length + 1 := by rw [List.length_append]; rfl
  obtain ⟨g, cap, rfl⟩ : ∃ g cap, y = .slice (some ⟨g, 0, none⟩) (chk.length + 1) cap := by
    rcases hR.ok.2 with ⟨_, h0⟩ | ⟨g, cap, cur, e, _⟩
    · rw [e2] at h0; omega
    · exact ⟨g, cap, by rw [e, e2]⟩
  exact hK g cap W' hX
end Go.Proofs.YtjeebcnjdhlcfaaDoor
