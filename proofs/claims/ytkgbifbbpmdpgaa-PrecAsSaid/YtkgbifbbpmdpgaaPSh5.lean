/- The small machine's heap and a world's: what an operation leaves. Of no program. -/
import Derived.Test.YtkgbifbbpmdpgaaPSh4
set_option linter.unusedVariables false
set_option linter.unusedSimpArgs false
namespace Go.Proofs.Ytkgbifbbpmdpgaa.Sh

open Go.RowKit
structure WF (H : Hp) : Prop where
 od : H.old ≤ H.next
 nx : 1 ≤ H.next ∧ H.next ≤ 131001
 inb : ∀ k, 1 ≤ k → k < 131072 → H.tr.inb k = true ∧ H.grp.inb k = true
 none : ∀ b, H.next ≤ b → H.tr.get b = none
 grp : ∀ b q, H.tr.get b = some q → 1 ≤ q.grp ∧ q.grp ≤ b ∧ b ≤ H.newest q
 new : ∀ g p, H.grp.get g = some p → p.1 < H.next ∧ g < H.next
 mono : ∀ b b' q q', H.tr.get b = some q → H.tr.get b' = some q' → q.grp = q'.grp → b ≤ b' → H.since q ≤ b → q.cells.length ≤ q'.cells.length
 all : ∀ b, 1 ≤ b → b < H.next → ∃ q, H.tr.get b = some q
def flatE (es : List MapEntry) : List Value := es.flatMap fun e => [e.key, e.val]
def RowIs (q : Blk) (k : Bk) (w : World) (cs : Array Value) : Prop :=
 (q.elem < mapE ∧ w.heap[k.blk]? = some (.cells cs q.elem (0, 0))) ∨ (mapE ≤ q.elem ∧ ∃ es clock, w.heap[k.blk]? = some (.map es clock) ∧ cs.toList = flatE es.toList ∧ q.cells.length = cs.size)
def RowV (β : Bij) (q : Blk) (k : Bk) (w : World) : Prop :=
 ∃ cs : Array Value, RowIs q k w cs ∧ (q.elem < mapE → cs.size = k.cap) ∧ ∀ (i : Nat) (x : Value), q.cells[i]? = some x → ∃ y, cs[i]? = some y ∧ VR β x y
theorem RowIs.world {q : Blk} {k : Bk} {w w' : World} {cs : Array Value} (h : RowIs q k w cs) (hk : w'.heap[k.blk]? = w.heap[k.blk]?) : RowIs q k w' cs := by
 unfold RowIs at *
 rw [hk]; exact h
theorem RowV.cells {β : Bij} {q : Blk} {k : Bk} {w : World} (h : RowV β q k w) (he : q.elem < mapE) : ∃ cs : Array Value, w.heap[k.blk]? = some (.cells cs q.elem (0, 0)) ∧ cs.size = k.cap ∧ ∀ (i : Nat) (x : Value), q.cells[i]? = some x → ∃ y, cs[i]? = some y ∧ VR β x y := by
 obtain ⟨cs, h1, h2, h3⟩ := h
 rcases h1 with ⟨_, h1⟩ | ⟨h1, _⟩
 · exact ⟨cs, h1, h2 he, h3⟩
 · exact absurd he (Nat.not_lt.2 h1)
theorem RowV.of {β : Bij} {q : Blk} {k : Bk} {w : World} {cs : Array Value} (he : q.elem < mapE) (h1 : w.heap[k.blk]? = some (.cells cs q.elem (0, 0))) (h2 : cs.size = k.cap) (h3 : ∀ (i : Nat) (x : Value), q.cells[i]? = some x → ∃ y, cs[i]? = some y ∧ VR β x y) : RowV β q k w :=
 ⟨cs, .inl ⟨he, h1⟩, fun _ => h2, h3⟩
structure Base where
 at_ : Bij
 row : Nat → Option Obj
def baseAt [Inhabited Base] : Bij := (default : Base).at_
def baseRow [Inhabited Base] : Nat → Option Obj := (default : Base).row
structure HR [Inhabited Base] (A : Nat → Prop) (β : Bij) (H : Hp) (w : World) : Prop where
 dom : ∀ b k, β b = some k → b < H.next ∧ k.blk < w.heap.size ∧ ∃ q, H.tr.get b = some q ∧ q.size = k.size
 row : ∀ b k q, β b = some k → H.tr.get b = some q → H.since q ≤ b → A q.grp → RowV β q k w
 share : ∀ b b' k k' q q', β b = some k → β b' = some k' → H.tr.get b = some q → H.tr.get b' = some q' → k.blk = k'.blk → q.grp = q'.grp
 base : Ext baseAt β
 fix : ∀ r o, baseRow r = some o → w.heap[r]? = some o
 apart : ∀ b k, β b = some k → baseRow k.blk = none
structure St (β : Bij) (H : Hp) (w : World) (β' : Bij) (H' : Hp) (w' : World) : Prop where
 os : w'.os = w.os
 tape : w'.tape = w.tape
 output : w'.output = w.output
 size : w.heap.size ≤ w'.heap.size
 ext : Ext β β'
 next : H.next ≤ H'.next
 old : H'.old = H.old
 ban : H'.ban = H.ban
 wrote : ∀ b, b ∈ H.wrote → b ∈ H'.wrote
 block : ∀ r, r < w.heap.size → (∀ b k q, β b = some k → H.tr.get b = some q → k.blk = r → q.grp < H.old ∧ q.grp ∉ H'.wrote) → w'.heap[r]? = w.heap[r]?
 new : ∀ b k, β' b = some k → β b = some k ∨ (H.next ≤ b ∧ b < H'.next ∧ ∃ q', H'.tr.get b = some q' ∧ ((H.next ≤ q'.grp ∧ w.heap.size ≤ k.blk) ∨ ∃ b0 k0 q0, β b0 = some k0 ∧ H.tr.get b0 = some q0 ∧ q0.grp = q'.grp ∧ ¬ (q0.grp < H.old ∧ q0.grp ∉ H'.wrote) ∧ (w.heap.size ≤ k.blk ∨ k0.blk = k.blk)))
 same : ∀ b q, H.tr.get b = some q → ∃ q', H'.tr.get b = some q' ∧ q'.size = q.size ∧ q'.grp = q.grp
 keep : ∀ b q, H.tr.get b = some q → q.grp < H.old → q.grp ∉ H'.wrote → H'.tr.get b = some q ∧ H'.since q = H.since q
 wdom : ∀ g, g ∈ H'.wrote → g ∈ H.wrote ∨ (g < H.old ∧ memN H.ban g = false ∧ ∃ b0 k0 q0, β b0 = some k0 ∧ H.tr.get b0 = some q0 ∧ q0.grp = g)
 full : ∀ b, H.next ≤ b → b < H'.next → ∃ k, β' b = some k
theorem St.refl (β : Bij) (H : Hp) (w : World) : St β H w β H w :=
 ⟨rfl, rfl, rfl, Nat.le_refl _, Ext.refl _, Nat.le_refl _, rfl, rfl, fun _ h => h, fun _ _ _ => rfl, fun _ _ h => .inl h, fun _ q h => ⟨q, h, rfl, rfl⟩, fun _ _ h _ _ => ⟨h, rfl⟩, fun _ h => .inl h, fun b h1 h2 => by omega⟩
theorem St.trans {β β1 β2 : Bij} {H H1 H2 : Hp} {w w1 w2 : World} (hd : ∀ b k, β1 b = some k → ∃ q, H1.tr.get b = some q) (hd0 : ∀ b k, β b = some k → ∃ q, H.tr.get b = some q) (ho : H.old ≤ H.next) (h : St β H w β1 H1 w1) (g : St β1 H1 w1 β2 H2 w2) : St β H w β2 H2 w2 := by
 have up : ∀ b k q1, β b = some k → H1.tr.get b = some q1 → ∃ q, H.tr.get b = some q ∧ q.grp = q1.grp := by
  intro b k q1 hb hq1
  obtain ⟨q, hq⟩ := hd0 b k hb
  obtain ⟨q', h1, h2, h3⟩ := h.same b q hq
  rw [hq1] at h1; cases h1
  exact ⟨q, hq, h3.symm⟩
 refine ⟨g.os.trans h.os, g.tape.trans h.tape, g.output.trans h.output, Nat.le_trans h.size g.size, h.ext.trans g.ext, Nat.le_trans h.next g.next, g.old.trans h.old, g.ban.trans h.ban, fun b hb => g.wrote b (h.wrote b hb), ?_, ?_, ?_, ?_, ?_, fun b h1 h2 => ?_⟩
 · intro r hr hk
   refine (g.block r (Nat.lt_of_lt_of_le hr h.size) (fun b k q1 hb hq1 e => ?_)).trans (h.block r hr (fun b k q hb hq e => ⟨(hk b k q hb hq e).1, fun hw => (hk b k q hb hq e).2 (g.wrote _ hw)⟩))
   rcases h.new b k hb with hb | ⟨h1, h2, q', h3, h4⟩
   · obtain ⟨q, hq, hg⟩ := up b k q1 hb hq1
     rw [h.old, ← hg]; exact hk b k q hb hq e
   · rw [hq1] at h3; cases h3
     rcases h4 with ⟨h4, h5⟩ | ⟨b0, k0, q0, h5, h6, h7, h8, h9⟩
     · omega
     · rcases h9 with h9 | h9
       · omega
       · obtain ⟨h10, h11⟩ := hk b0 k0 q0 h5 h6 (h9.trans e)
         exact absurd ⟨h10, fun hw => h11 (g.wrote _ hw)⟩ h8
 · intro b k hb
   rcases g.new b k hb with hb | ⟨h1, h2, q', h3, h4⟩
   · rcases h.new b k hb with hb | ⟨h1, h2, q', h3, h4⟩
     · exact .inl hb
     · obtain ⟨q2, h5, _, h6⟩ := g.same b q' h3
       refine .inr ⟨h1, Nat.lt_of_lt_of_le h2 g.next, q2, h5, ?_⟩
       rw [h6]
       rcases h4 with h4 | ⟨b0, k0, q0, h7, h8, h9, h10, h11⟩
       · exact .inl h4
       · exact .inr ⟨b0, k0, q0, h7, h8, h9, fun hh => h10 ⟨hh.1, fun hw => hh.2 (g.wrote _ hw)⟩, h11⟩
   · refine .inr ⟨Nat.le_trans h.next h1, h2, q', h3, ?_⟩
     rcases h4 with ⟨h4, h5⟩ | ⟨b0, k0, q0, h5, h6, h7, h8, h9⟩
     · exact .inl ⟨Nat.le_trans h.next h4, Nat.le_trans h.size h5⟩
     · rcases h.new b0 k0 h5 with h10 | ⟨h10, h11, q1, h12, h13⟩
       · obtain ⟨q, hq, hg⟩ := up b0 k0 q0 h10 h6
         refine .inr ⟨b0, k0, q, h10, hq, hg.trans h7, ?_, ?_⟩
         · rw [hg]; rw [h.old] at h8; exact h8
         · rcases h9 with h9 | h9
           · exact .inl (Nat.le_trans h.size h9)
           · exact .inr h9
       · rw [h6] at h12; cases h12
         rcases h13 with ⟨h13, h14⟩ | ⟨b1, k1, q1, g1, g2, g3, g4, g5⟩
         · refine .inl ⟨by rw [← h7]; exact h13, ?_⟩
           rcases h9 with h9 | h9
           · exact Nat.le_trans h.size h9
           · rw [← h9]; exact h14
         · refine .inr ⟨b1, k1, q1, g1, g2, g3.trans h7, fun hh => g4 ⟨hh.1, fun hw => hh.2 (g.wrote _ hw)⟩, ?_⟩
           rcases h9 with h9 | h9
           · exact .inl (Nat.le_trans h.size h9)
           · rcases g5 with g5 | g5
             · rw [← h9]; exact .inl g5
             · exact .inr (g5.trans h9)
 · intro b q hq
   obtain ⟨q1, h1, h2, h3⟩ := h.same b q hq
   obtain ⟨q2, h4, h5, h6⟩ := g.same b q1 h1
   exact ⟨q2, h4, h5.trans h2, h6.trans h3⟩
 · intro b q hq h1 h2
   obtain ⟨h3, h4⟩ := h.keep b q hq h1 (fun hw => h2 (g.wrote _ hw))
   obtain ⟨h5, h6⟩ := g.keep b q h3 (by rw [h.old]; exact h1) h2
   exact ⟨h5, h6.trans h4⟩
 · intro x hx
   rcases g.wdom x hx with h1 | ⟨h0, h1, b0, k0, q0, h2, h3, h4⟩
   · exact h.wdom x h1
   · rw [h.ban] at h1
     rw [h.old] at h0
     rcases h.new b0 k0 h2 with h5 | ⟨h5, h6, q', h7, h8⟩
     · obtain ⟨q, hq, hg⟩ := up b0 k0 q0 h5 h3
       exact .inr ⟨h0, h1, b0, k0, q, h5, hq, hg.trans h4⟩
     · rw [h3] at h7; cases h7
       rcases h8 with ⟨h8, _⟩ | ⟨b1, k1, q1, g1, g2, g3, g4, g5⟩
       · omega
       · exact .inr ⟨h0, h1, b1, k1, q1, g1, g2, g3.trans h4⟩
 · rcases Nat.lt_or_ge b H1.next with h3 | h3
   · obtain ⟨k, hk⟩ := h.full b h1 h3
     exact ⟨k, g.ext b k hk⟩
   · exact g.full b h3 h2
theorem Tr.get_zero {α : Type} (t : Tr α) : t.get 0 = none := by
 induction t with
 | nil => rfl
 | node v l r ihl ihr => rw [Tr.get_node]; simpa using ihl
theorem WF.pos {H : Hp} (h : WF H) {b : Nat} {q : Blk} (hq : H.tr.get b = some q) : 1 ≤ b ∧ b < H.next := by
 constructor
 · rcases Nat.eq_zero_or_pos b with e | e
   · rw [e, Tr.get_zero] at hq; cases hq
   · exact e
 · rcases Nat.lt_or_ge b H.next with e | e
   · exact e
   · rw [h.none b e] at hq; cases hq
theorem read_inv {H : Hp} {b : Nat} {q : Blk} (h : H.read b = some q) : H.tr.get b = some q ∧ H.since q ≤ b ∧ memN H.ban q.grp = false := by
 unfold Hp.read at h
 split at h
 · rename_i q' hq
   rcases cond_split h with ⟨h1, h2⟩ | ⟨h1, h2⟩
   · cases h2
     obtain ⟨_, h1⟩ := and_split h1
     obtain ⟨h3, h4⟩ := and_split h1
     exact ⟨hq, of_ble h3, by simpa using h4⟩
   · cases h2
 · cases h
theorem read_elem {H : Hp} {b : Nat} {q : Blk} (h : H.read b = some q) : q.elem < mapE := by
 unfold Hp.read at h
 split at h
 · rename_i q' hq
   rcases cond_split h with ⟨h1, h2⟩ | ⟨h1, h2⟩
   · cases h2
     exact Nat.le_of_ble_eq_true (and_split h1).1
   · cases h2
 · cases h
theorem readM_inv {H : Hp} {b : Nat} {q : Blk} (h : H.readM b = some q) : H.tr.get b = some q ∧ H.since q ≤ b ∧ memN H.ban q.grp = false ∧ mapE ≤ q.elem := by
 unfold Hp.readM at h
 split at h
 · rename_i q' hq
   rcases cond_split h with ⟨h1, h2⟩ | ⟨h1, h2⟩
   · cases h2
     obtain ⟨h0, h1⟩ := and_split h1
     obtain ⟨h3, h4⟩ := and_split h1
     exact ⟨hq, of_ble h3, by simpa using h4, of_ble h0⟩
   · cases h2
 · cases h
variable {bs : Inhabited Base}
theorem lt_of_row {w : World} {r : Nat} {o : Obj} (h : w.heap[r]? = some o) : r < w.heap.size := by
 rcases Nat.lt_or_ge r w.heap.size with h' | h'
 · exact h'
 · rw [Array.getElem?_eq_none h'] at h; cases h
theorem HR.fix_none {A : Nat → Prop} {β : Bij} {H : Hp} {w : World} (h : HR A β H w) {r : Nat} (hr : w.heap.size ≤ r) : baseRow r = none := by
 cases e : baseRow r with
 | none => rfl
 | some o =>
   have h1 := lt_of_row (h.fix r o e)
   omega
theorem HR.world {A : Nat → Prop} {β : Bij} {H : Hp} {w w' : World} (h : HR A β H w) (hs : w.heap.size ≤ w'.heap.size) (hk : ∀ b k, β b = some k → w'.heap[k.blk]? = w.heap[k.blk]?) (hf : ∀ r o, baseRow r = some o → w'.heap[r]? = w.heap[r]?) : HR A β H w' := by
 refine ⟨fun b k hb => ?_, fun b k q hb hq hl ha => ?_, h.share, h.base, fun r o e => (hf r o e).trans (h.fix r o e), h.apart⟩
 · obtain ⟨h1, h2, h3⟩ := h.dom b k hb
   exact ⟨h1, by omega, h3⟩
 · obtain ⟨cs, h1, h2⟩ := h.row b k q hb hq hl ha
   exact ⟨cs, h1.world (hk b k hb), h2⟩
theorem HR.drew {A : Nat → Prop} {β : Bij} {H : Hp} {w : World} (h : HR A β H w) : HR A β H w.drew := h.world (Nat.le_refl _) (fun _ _ _ => rfl) (fun _ _ _ => rfl)
theorem St.tr {A A1 : Nat → Prop} {β β1 β2 : Bij} {H H1 H2 : Hp} {w w1 w2 : World} (hr : HR A β H w) (hr1 : HR A1 β1 H1 w1) (hw : WF H) (h : St β H w β1 H1 w1) (g : St β1 H1 w1 β2 H2 w2) : St β H w β2 H2 w2 :=
 St.trans (fun b k hb => let ⟨_, _, q, hq, _⟩ := hr1.dom b k hb; ⟨q, hq⟩) (fun b k hb => let ⟨_, _, q, hq, _⟩ := hr.dom b k hb; ⟨q, hq⟩) hw.od h g
def Does [Inhabited Base] (P : Program) (A : Nat → Prop) (β : Bij) (H : Hp) (w : World) (s : Sem Next) : Nx → Prop
 | .val v H' => ∃ β' v' w', s.run P w = .ok (.value v') w' ∧ St β H w β' H' w' ∧ VR β' v v' ∧ HR A β' H' w' ∧ WF H'
 | .skip H' => ∃ w', s.run P w = .ok .skip w' ∧ St β H w β H' w' ∧ HR A β H' w' ∧ WF H'
 | .enter f args H' => H' = H ∧ ∃ args', s.run P w = .ok (.enter f args') w ∧ VL β args args'.toList
 | .bad _ => True
theorem Pure.does {P : Program} {A : Nat → Prop} {β : Bij} {H : Hp} {w : World} {s : Sem Value} {n : Nx} (h : Pure P β H s n) (hw : WF H) (hr : HR A β H w) :
  Does P A β H w (do pure (Next.value (← s))) n := by
 cases n with
 | val v H' =>
   obtain ⟨rfl, v', hv, hs⟩ := h
   exact ⟨β, v', w, by simp [hs w], St.refl _ _ _, hv, hr, hw⟩
 | skip H' => exact h.elim
 | enter f args H' => exact h.elim
 | bad n => trivial
end Go.Proofs.Ytkgbifbbpmdpgaa.Sh
