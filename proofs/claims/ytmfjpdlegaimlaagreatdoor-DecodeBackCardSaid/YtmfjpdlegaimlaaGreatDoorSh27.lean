/- strings.Builder in the small machine: what copyCheck and String do. Of no program. -/
import Derived.Test.YtmfjpdlegaimlaaGreatDoorSh26
namespace Go.Proofs.YtmfjpdlegaimlaaGreatDoor
open Go.RowKit
set_option linter.unusedVariables false
set_option linter.unusedSimpArgs false
variable {bs : Inhabited Base}
noncomputable section

/-- of this group nothing may be read any more -/
def Hp.shutG (H : Hp) (q : Blk) : Hp := ⟨H.tr, H.next, H.grp.set (H.newest q, H.next) q.grp, H.old, wroteS H q.grp, H.ban⟩
def ckB (T : TypeId) (H : Hp) (b : Nat) (q : Blk) : List Value → Ret
  | [.pointer none, v] => cond (Nat.beq q.elem T && Nat.beq (H.newest q) b) (.ok (.tuple #[]) (H.write b q [.pointer (some ⟨b, 0, none⟩), v])) (.bad 120 [])
  | [.pointer (some ⟨b', 0, none⟩), v] => cond (Nat.beq q.elem T && Nat.beq b b') (.ok (.tuple #[]) H) (.bad 121 [])
  | _ => .bad 122 []
/-- copyCheck -/
def ckS (T : TypeId) (args : List Value) (H : Hp) : Ret := match args with
  | [.pointer (some ⟨b, 0, none⟩)] => match H.read b with
    | some q => ckB T H b q q.cells
    | none => .bad 123 []
  | _ => .bad 124 []
def strC (U : TypeId) (H : Hp) (n : Nat) : Option Blk → Ret
  | some r => match (cellsAt r 0 n).bind bytesL with
    | some bs => cond (Nat.beq r.elem U && Nat.ble 1 n) (.ok (.string ⟨bs.toArray⟩) (H.shutG r)) (.bad 125 [])
    | none => .bad 126 []
  | none => .bad 127 []
def strB (T U : TypeId) (H : Hp) (q : Blk) : List Value → Ret
  | [p, .slice (some ⟨g, 0, none⟩) n _] => cond (Nat.beq q.elem T) (strC U H n (H.read g)) (.bad 128 [])
  | _ => .bad 129 []
/-- String -/
def strS (T U : TypeId) (args : List Value) (H : Hp) : Ret := match args with
  | [.pointer (some ⟨b, 0, none⟩)] => match H.read b with
    | some q => strB T U H q q.cells
    | none => .bad 130 []
  | _ => .bad 131 []
end
section
variable {P : Program} {A : Nat → Prop} {β : Bij} {H : Hp} {w w' : World}
theorem shutG_grp (hw : WF H) {b : Nat} {q : Blk} (hq : H.tr.get b = some q) (g : Nat) : (H.shutG q).grp.get g = if g = q.grp then some (H.newest q, H.next) else H.grp.get g := by
  have hp := hw.pos hq
  have hg := hw.grp b q hq
  show (H.grp.set (H.newest q, H.next) q.grp).get g = _
  rw [Tr.get_set _ _ _ _ ((hw.inb q.grp hg.1 (by have := hw.nx; omega)).2)]
theorem shutG_newest (hw : WF H) {b : Nat} {q : Blk} (hq : H.tr.get b = some q) (q' : Blk) : (H.shutG q).newest q' = H.newest q' := by
  have e1 : (H.shutG q).newest q' = match (H.shutG q).grp.get q'.grp with | some p => p.1 | none => q'.grp := rfl
  rw [e1, shutG_grp hw hq]
  by_cases e : q'.grp = q.grp
  · rw [if_pos e]
    unfold Hp.newest
    rw [e]
  · rw [if_neg e]; rfl
theorem shutG_since (hw : WF H) {b : Nat} {q : Blk} (hq : H.tr.get b = some q) (q' : Blk) : (H.shutG q).since q' = if q'.grp = q.grp then H.next else H.since q' := by
  have e1 : (H.shutG q).since q' = match (H.shutG q).grp.get q'.grp with | some p => p.2 | none => 0 := rfl
  rw [e1, shutG_grp hw hq]
  by_cases e : q'.grp = q.grp
  · rw [if_pos e, if_pos e]
  · rw [if_neg e, if_neg e]; rfl
/-- a row that is not looked at any more may turn -/
theorem sealed (hw : WF H) (hr : HR A β H w) {b : Nat} {k : Bk} {q : Blk} (hb : β b = some k) (hq : H.tr.get b = some q) (hban : memN H.ban q.grp = false) (ho : Over0 w w' k.blk) :
    St β H w β (H.shutG q) w' ∧ HR A β (H.shutG q) w' ∧ WF (H.shutG q) := by
  have hsin := shutG_since hw hq
  have hlt : ∀ i q', H.tr.get i = some q' → i < H.next := fun i q' h => (hw.pos h).2
  have hmine : q.grp ∈ (H.shutG q).wrote ∨ H.old ≤ q.grp := by
    rcases Nat.lt_or_ge q.grp H.old with h | h
    · exact .inl (mem_wrote.2 (.inr ⟨rfl, h⟩))
    · exact .inr h
  refine ⟨⟨ho.os, ho.tape, ho.output, by rw [ho.size]; exact Nat.le_refl _, Ext.refl _, Nat.le_refl _, rfl, rfl, fun i hi => mem_wrote.2 (.inl hi), ?_, fun i k' hi => .inl hi, fun i q' hq' => ⟨q', hq', rfl, rfl⟩, ?_, ?_, fun i h1 h2 => absurd (show i < H.next from h2) (by omega)⟩, ⟨?_, ?_, ?_, hr.base, fun r o e => (ho.old r (fun e2 => by rw [e2, hr.apart b k hb] at e; cases e)).trans (hr.fix r o e), hr.apart⟩, ⟨hw.od, hw.nx, ?_, hw.none, ?_, ?_, ?_, hw.all⟩⟩
  · intro r hrs hk
    refine ho.old r (fun e => ?_)
    obtain ⟨h1, h2⟩ := hk b k q hb hq e.symm
    rcases hmine with h | h
    · exact h2 h
    · omega
  · intro i q' hq' h1 h2
    have hne : q'.grp ≠ q.grp := fun e => by
      rw [e] at h1 h2
      rcases hmine with h | h
      · exact h2 h
      · omega
    exact ⟨hq', by rw [hsin, if_neg hne]⟩
  · intro g hg
    rcases mem_wrote.1 hg with h | ⟨rfl, h⟩
    · exact .inl h
    · exact .inr ⟨h, hban, b, k, q, hb, hq, rfl⟩
  · intro i k' hi
    obtain ⟨h1, h2, h3⟩ := hr.dom i k' hi
    exact ⟨h1, by rw [ho.size]; exact h2, h3⟩
  · intro i k' q' hi hq' hl ha
    rw [hsin] at hl
    by_cases e : q'.grp = q.grp
    · rw [if_pos e] at hl
      have := hlt i q' hq'
      omega
    · rw [if_neg e] at hl
      exact (hr.row i k' q' hi hq' hl ha).mono (Ext.refl _) (ho.old _ (fun e' => e (hr.share i b k' k q' q hi hb hq' hq e')))
  · exact hr.share
  · intro i h1 h2
    have := hw.inb i h1 h2
    refine ⟨this.1, ?_⟩
    show (H.grp.set _ _).inb i = true
    rw [Tr.inb_set]; exact this.2
  · intro i q1 hq1
    rw [shutG_newest hw hq]
    exact hw.grp i q1 hq1
  · intro g p hp'
    rw [shutG_grp hw hq] at hp'
    by_cases e : g = q.grp
    · rw [if_pos e] at hp'
      cases hp'
      have h1 := hw.grp b q hq
      have h2 := hlt b q hq
      have h3 : H.newest q < H.next := by
        unfold Hp.newest
        cases h : H.grp.get q.grp with
        | none => show q.grp < H.next; omega
        | some p => exact (hw.new _ p h).1
      refine ⟨h3, ?_⟩
      show _ < H.next
      omega
    · rw [if_neg e] at hp'; exact hw.new g p hp'
  · intro i i' q1 q2 hq1 hq2 hg hii hl
    rw [hsin] at hl
    by_cases e : q1.grp = q.grp
    · rw [if_pos e] at hl
      have := hlt i q1 hq1
      omega
    · rw [if_neg e] at hl
      exact hw.mono i i' q1 q2 hq1 hq2 hg hii hl

/-- what a program's strings.Builder does: T its type, U that of a byte -/
structure BldOk (P : Program) (T U : TypeId) (ck st : FuncId) : Prop where
  fresh : ∀ (b : Nat) (w : World) (cs : Array Value), w.heap[b]? = some (.cells cs T (0, 0)) → 2 ≤ cs.size → cs[0]? = some (.pointer none) →
    Calls P ck #[.pointer (some ⟨b, 0, none⟩)] w fun e w' => e = .returned (.tuple #[]) ∧ w' = w.setCell ⟨b, 0, none⟩ (.pointer (some ⟨b, 0, none⟩))
  used : ∀ (b : Nat) (w : World) (cs : Array Value), w.heap[b]? = some (.cells cs T (0, 0)) → cs[0]? = some (.pointer (some ⟨b, 0, none⟩)) →
    Calls P ck #[.pointer (some ⟨b, 0, none⟩)] w fun e w' => e = .returned (.tuple #[]) ∧ w' = w
  str : ∀ (b g cap : Nat) (w : World) (cs cur : Array Value) (l : List UInt8), w.heap[b]? = some (.cells cs T (0, 0)) → cs[1]? = some (.slice (some ⟨g, 0, none⟩) l.length cap) → w.heap[g]? = some (.cells cur U (0, 0)) →
    l ≠ [] → l.length ≤ cap → cap ≤ 9223372036854775807 → (∀ (j : Nat) (x : UInt8), l[j]? = some x → cur[j]? = some (.int .u8 x.toNat)) →
    Calls P st #[.pointer (some ⟨b, 0, none⟩)] w fun e w' => e = .returned (.string ⟨l.toArray⟩) ∧ Over0 w w' g

variable {T U : TypeId} {ck st : FuncId}
theorem one_arg {x : Value} {args' : Array Value} (hl : VL β [x] args'.toList) : ∃ y, args' = #[y] ∧ VR β x y := by
  obtain ⟨y, r, e, h1, h2⟩ := hl.uncons
  obtain rfl : r = [] := by have := h2.1; simpa using this.symm
  exact ⟨y, Array.toList_inj.1 e, h1⟩
theorem ck_ok (hB : BldOk P T U ck st) {args : List Value} {v : Value} {H' : Hp} (h : ckS T args H = .ok v H') {args' : Array Value} (hw : WF H) (hr : HR (Ab H.ban) β H w) (hl : VL β args args'.toList) : Calls P ck args' w (CallPost β H w v H') := by
  unfold ckS at h
  split at h
  · rename_i b
    obtain ⟨y, rfl, hy⟩ := one_arg hl
    obtain ⟨k, hk, rfl⟩ := hy.ptr_inv (sp := none)
    split at h
    · rename_i q hq
      obtain ⟨h1, h2, h3⟩ := read_inv hq
      have hrow := hr.row b k q hk h1 h2 h3
      obtain ⟨cs, g1, g2, g3⟩ := hrow.cells (read_elem hq)
      unfold ckB at h
      split at h
      · rename_i u e
        rcases cond_split h with ⟨h4, h5⟩ | ⟨_, h5⟩
        · obtain ⟨h6, h7⟩ := and_split h4
          have h6 := of_beq h6
          have h7 := of_beq h7
          cases h5
          have e0 : q.cells[0]? = some (.pointer none) := by rw [e]; rfl
          have e1 : q.cells[1]? = some u := by rw [e]; rfl
          obtain ⟨y0, hy0, hv0⟩ := g3 0 _ e0
          obtain ⟨y1, hy1, hv1⟩ := g3 1 _ e1
          have hsz : 2 ≤ cs.size := by have := (Array.getElem?_eq_some_iff.1 hy1).1; omega
          have hv0' : y0 = .pointer none := by cases hv0; rfl
          subst hv0'
          rw [h6] at g1
          refine (hB.fresh k.blk w cs g1 hsz hy0).mono ?_
          rintro e w' ⟨rfl, rfl⟩
          have hnew : (w.setCell ⟨k.blk, 0, none⟩ (.pointer (some ⟨k.blk, 0, none⟩))).heap[k.blk]? = some (.cells (cs.setIfInBounds 0 (.pointer (some ⟨k.blk, 0, none⟩))) T (0, 0)) := by
            simp [World.setCell, Array.getElem?_modify, g1]
          obtain ⟨s1, s2, s3⟩ := stored (w' := w.setCell ⟨k.blk, 0, none⟩ (.pointer (some ⟨k.blk, 0, none⟩))) hw hr hk h1 h7 h3 (read_elem hq) [.pointer (some ⟨b, 0, none⟩), u] (cs.setIfInBounds 0 (.pointer (some ⟨k.blk, 0, none⟩))) (by simpa using g2) (by
            intro j x hx
            match j, hx with
            | 0, hx =>
              cases hx
              exact ⟨_, by rw [Array.getElem?_setIfInBounds_self_of_lt (by omega)], .ptr hk⟩
            | 1, hx =>
              cases hx
              exact ⟨y1, by rw [Array.getElem?_setIfInBounds_ne (by omega)]; exact hy1, hv1⟩
            | j + 2, hx => simp at hx) ⟨rfl, rfl, rfl, by simp [World.setCell], by rw [h6]; exact hnew, fun i hi => by simp [World.setCell, Array.getElem?_modify, Ne.symm hi]⟩
          exact ⟨β, .tuple #[], rfl, .tuple rfl (fun i x y h => by simp at h), s1, s3, s2⟩
        · cases h5
      · rename_i b' u e
        rcases cond_split h with ⟨h4, h5⟩ | ⟨_, h5⟩
        · obtain ⟨h6, h7⟩ := and_split h4
          have h6 := of_beq h6
          have h7 := of_beq h7
          cases h5
          subst h7
          have e0 : q.cells[0]? = some (.pointer (some ⟨b, 0, none⟩)) := by rw [e]; rfl
          obtain ⟨y0, hy0, hv0⟩ := g3 0 _ e0
          obtain ⟨k2, hk2, rfl⟩ := hv0.ptr_inv (sp := none)
          rw [hk] at hk2; cases hk2
          rw [h6] at g1
          refine (hB.used k.blk w cs g1 hy0).mono ?_
          rintro e w' ⟨rfl, rfl⟩
          exact ⟨β, .tuple #[], rfl, .tuple rfl (fun i x y h => by simp at h), St.refl _ _ _, hw, hr⟩
        · cases h5
      · cases h
    · cases h
  · cases h
theorem str_ok (hB : BldOk P T U ck st) {args : List Value} {v : Value} {H' : Hp} (h : strS T U args H = .ok v H') {args' : Array Value} (hw : WF H) (hr : HR (Ab H.ban) β H w) (hl : VL β args args'.toList) : Calls P st args' w (CallPost β H w v H') := by
  unfold strS at h
  split at h
  · rename_i b
    obtain ⟨y, rfl, hy⟩ := one_arg hl
    obtain ⟨k, hk, rfl⟩ := hy.ptr_inv (sp := none)
    split at h
    · rename_i q hq
      obtain ⟨h1, h2, h3⟩ := read_inv hq
      have hrow := hr.row b k q hk h1 h2 h3
      obtain ⟨cs, g1, g2, g3⟩ := hrow.cells (read_elem hq)
      unfold strB at h
      split at h
      · rename_i p g n c0 e
        rcases cond_split h with ⟨h4, h5⟩ | ⟨_, h5⟩
        · have h4 := of_beq h4
          unfold strC at h5
          split at h5
          · rename_i r hr1
            split at h5
            · rename_i bs hbs
              rcases cond_split h5 with ⟨h6, h7⟩ | ⟨_, h7⟩
              · obtain ⟨h8, h9⟩ := and_split h6
                have h8 := of_beq h8
                have h9 := of_ble h9
                cases h7
                obtain ⟨l, l1, l2⟩ := Option.bind_eq_some_iff.1 hbs
                have l2 := bytesL_mem _ _ l2
                obtain ⟨l3, l4, l5⟩ := cellsAt_eq l1
                have hbn : bs.length = n := by rw [l2] at l5; simpa using l5
                obtain ⟨i1, i2, i3⟩ := read_inv hr1
                have e1 : q.cells[1]? = some (.slice (some ⟨g, 0, none⟩) n c0) := by rw [e]; rfl
                obtain ⟨y1, hy1, hv1⟩ := g3 1 _ e1
                have hc0 : c0 = n := by cases hv1 with | atom h => cases h | slice => rfl | void => rfl
                subst hc0
                rcases hv1.slice_inv with ⟨h, _⟩ | ⟨h, _⟩ | ⟨b', off, kk, c, h, hkk, hnc, hcm, h0, rfl⟩
                · cases h
                · omega
                · cases h
                  obtain ⟨cur, w1, w2, w3⟩ := (hr.row g kk r hkk i1 i2 i3).cells (read_elem hr1)
                  rw [h4] at g1
                  rw [h8] at w1
                  have hcc : c0 = bs.length := hbn.symm
                  subst hcc
                  refine (hB.str k.blk kk.blk c w cs cur bs g1 hy1 w1 (fun e => by rw [e] at h9; simp at h9) hnc hcm (fun j x hx => ?_)).mono ?_
                  · have hxl : l[j]? = some (.int .u8 (x.toNat : Int)) := by rw [l2]; simp [hx]
                    rw [l4, List.getElem?_take] at hxl
                    split at hxl
                    · rw [List.getElem?_drop, Nat.zero_add] at hxl
                      obtain ⟨y, hy, hv⟩ := w3 j _ hxl
                      rw [hy, hv.int]
                    · cases hxl
                  · rintro e w' ⟨rfl, ho⟩
                    obtain ⟨s1, s2, s3⟩ := sealed hw hr hkk i1 i3 ho
                    exact ⟨β, _, rfl, .atom rfl, s1, s3, s2⟩
              · cases h7
            · cases h5
          · cases h5
        · cases h5
      · cases h
    · cases h
  · cases h
end
end Go.Proofs.YtmfjpdlegaimlaaGreatDoor
