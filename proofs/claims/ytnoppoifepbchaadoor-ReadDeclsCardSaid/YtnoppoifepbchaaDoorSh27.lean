/- strings.Builder in the small machine: what copyCheck and String do. Of no program. -/
import Derived.Test.YtnoppoifepbchaaDoorSh25
import Derived.Test.YtnoppoifepbchaaDoorRows
import Derived.KernelRfl
import Derived.Calls
import Derived.Test.YtnoppoifepbchaaDoorScan
import Derived.Test.YtnoppoifepbchaaDoorShelfAtoi
import Derived.Test.YtnoppoifepbchaaDoorShelf
import Derived.Test.YtnoppoifepbchaaDoorLAtoi
import Derived.Lib.IndexMore
import Derived.Lib.AtoiAll
import Derived.Lib.Hide
namespace Go.Proofs.YtnoppoifepbchaaDoor.Sh
section
open Go.RowKit
set_option linter.unusedVariables false
set_option linter.unusedSimpArgs false
variable {bs : Inhabited Base}
noncomputable section

/-- of this group nothing may be read any more -/
def Hp.shutG (H : Hp) (q : Blk) : Hp := ⟨H.tr, H.next, H.grp.set (H.newest q, H.next) q.grp, H.old, wroteS H q.grp, H.ban⟩
def ckB (T : TypeId) (H : Hp) (b : Nat) (q : Blk) : List Value → Ret
 | [.pointer none, v] => cond (Nat.beq q.elem T && Nat.beq (H.newest q) b) (.ok (.tuple #[]) (H.write b q [.pointer (some ⟨b, 0, none⟩), v])) (.bad 120 [])
 | [.pointer (some ⟨b', 0, none⟩), v] => cond (Nat.beq q.elem T && Nat.beq b b') (.ok (.tuple #[]) H) (.bad 121 [])
 | _ => .bad 122 []
/-- copyCheck -/
def ckS (T : TypeId) (args : List Value) (H : Hp) : Ret := match args with
 | [.pointer (some ⟨b, 0, none⟩)] => match H.read b with
   | some q => ckB T H b q q.cells
   | none => .bad 123 []
 | _ => .bad 124 []
def strC (U : TypeId) (H : Hp) (n : Nat) : Option Blk → Ret
 | some r => match (cellsAt r 0 n).bind bytesL with
   | some bs => cond (Nat.beq r.elem U && Nat.ble 1 n) (.ok (.string ⟨bs.toArray⟩) (H.shutG r)) (.bad 125 [])
   | none => .bad 126 []
 | none => .bad 127 []
def strB (T U : TypeId) (H : Hp) (q : Blk) : List Value → Ret
 | [p, .slice (some ⟨g, 0, none⟩) n _] => cond (Nat.beq q.elem T) (strC U H n (H.read g)) (.bad 128 [])
 | _ => .bad 129 []
/-- String -/
def strS (T U : TypeId) (args : List Value) (H : Hp) : Ret := match args with
 | [.pointer (some ⟨b, 0, none⟩)] => match H.read b with
   | some q => strB T U H q q.cells
   | none => .bad 130 []
 | _ => .bad 131 []
end
section
variable {P : Program} {A : Nat → Prop} {β : Bij} {H : Hp} {w w' : World}
theorem shutG_grp (hw : WF H) {b : Nat} {q : Blk} (hq : H.tr.get b = some q) (g : Nat) : (H.shutG q).grp.get g = if g = q.grp then some (H.newest q, H.next) else H.grp.get g := by
 have hp := hw.pos hq
 have hg := hw.grp b q hq
 show (H.grp.set (H.newest q, H.next) q.grp).get g = _
 rw [Tr.get_set _ _ _ _ ((hw.inb q.grp hg.1 (by have := hw.nx; omega)).2)]
theorem shutG_newest (hw : WF H) {b : Nat} {q : Blk} (hq : H.tr.get b = some q) (q' : Blk) : (H.shutG q).newest q' = H.newest q' := by
 have e1 : (H.shutG q).newest q' = match (H.shutG q).grp.get q'.grp with | some p => p.1 | none => q'.grp := rfl
 rw [e1, shutG_grp hw hq]
 by_cases e : q'.grp = q.grp
 · rw [if_pos e]
   unfold Hp.newest
   rw [e]
 · rw [if_neg e]; rfl
theorem shutG_since (hw : WF H) {b : Nat} {q : Blk} (hq : H.tr.get b = some q) (q' : Blk) : (H.shutG q).since q' = if q'.grp = q.grp then H.next else H.since q' := by
 have e1 : (H.shutG q).since q' = match (H.shutG q).grp.get q'.grp with | some p => p.2 | none => 0 := rfl
 rw [e1, shutG_grp hw hq]
 by_cases e : q'.grp = q.grp
 · rw [if_pos e, if_pos e]
 · rw [if_neg e, if_neg e]; rfl
/-- a row that is not looked at any more may turn -/
theorem sealed (hw : WF H) (hr : HR A β H w) {b : Nat} {k : Bk} {q : Blk} (hb : β b = some k) (hq : H.tr.get b = some q) (hban : memN H.ban q.grp = false) (ho : Over0 w w' k.blk) :
  St β H w β (H.shutG q) w' ∧ HR A β (H.shutG q) w' ∧ WF (H.shutG q) := by
 have hsin := shutG_since hw hq
 have hlt : ∀ i q', H.tr.get i = some q' → i < H.next := fun i q' h => (hw.pos h).2
 have hmine : q.grp ∈ (H.shutG q).wrote ∨ H.old ≤ q.grp := by
  rcases Nat.lt_or_ge q.grp H.old with h | h
  · exact .inl (mem_wrote.2 (.inr ⟨rfl, h⟩))
  · exact .inr h
 refine ⟨⟨ho.os, ho.tape, ho.output, by rw [ho.size]; exact Nat.le_refl _, Ext.refl _, Nat.le_refl _, rfl, rfl, fun i hi => mem_wrote.2 (.inl hi), ?_, fun i k' hi => .inl hi, fun i q' hq' => ⟨q', hq', rfl, rfl⟩, ?_, ?_, fun i h1 h2 => absurd (show i < H.next from h2) (by omega)⟩, ⟨?_, ?_, ?_, hr.base, fun r o e => (ho.old r (fun e2 => by rw [e2, hr.apart b k hb] at e; cases e)).trans (hr.fix r o e), hr.apart⟩, ⟨hw.od, hw.nx, ?_, hw.none, ?_, ?_, ?_, hw.all⟩⟩
 · intro r hrs hk
   refine ho.old r (fun e => ?_)
   obtain ⟨h1, h2⟩ := hk b k q hb hq e.symm
   rcases hmine with h | h
   · exact h2 h
   · omega
 · intro i q' hq' h1 h2
   have hne : q'.grp ≠ q.grp := fun e => by
    rw [e] at h1 h2
    rcases hmine with h | h
    · exact h2 h
    · omega
   exact ⟨hq', by rw [hsin, if_neg hne]⟩
 · intro g hg
   rcases mem_wrote.1 hg with h | ⟨rfl, h⟩
   · exact .inl h
   · exact .inr ⟨h, hban, b, k, q, hb, hq, rfl⟩
 · intro i k' hi
   obtain ⟨h1, h2, h3⟩ := hr.dom i k' hi
   exact ⟨h1, by rw [ho.size]; exact h2, h3⟩
 · intro i k' q' hi hq' hl ha
   rw [hsin] at hl
   by_cases e : q'.grp = q.grp
   · rw [if_pos e] at hl
     have := hlt i q' hq'
     omega
   · rw [if_neg e] at hl
     exact (hr.row i k' q' hi hq' hl ha).mono (Ext.refl _) (ho.old _ (fun e' => e (hr.share i b k' k q' q hi hb hq' hq e')))
 · exact hr.share
 · intro i h1 h2
   have := hw.inb i h1 h2
   refine ⟨this.1, ?_⟩
   show (H.grp.set _ _).inb i = true
   rw [Tr.inb_set]; exact this.2
 · intro i q1 hq1
   rw [shutG_newest hw hq]
   exact hw.grp i q1 hq1
 · intro g p hp'
   rw [shutG_grp hw hq] at hp'
   by_cases e : g = q.grp
   · rw [if_pos e] at hp'
     cases hp'
     have h1 := hw.grp b q hq
     have h2 := hlt b q hq
     have h3 : H.newest q < H.next := by
      unfold Hp.newest
      cases h : H.grp.get q.grp with
      | none => show q.grp < H.next; omega
      | some p => exact (hw.new _ p h).1
     refine ⟨h3, ?_⟩
     show _ < H.next
     omega
   · rw [if_neg e] at hp'; exact hw.new g p hp'
 · intro i i' q1 q2 hq1 hq2 hg hii hl
   rw [hsin] at hl
   by_cases e : q1.grp = q.grp
   · rw [if_pos e] at hl
     have := hlt i q1 hq1
     omega
   · rw [if_neg e] at hl
     exact hw.mono i i' q1 q2 hq1 hq2 hg hii hl

/-- what a program's strings.Builder does: T its type, U that of a byte -/
structure BldOk (P : Program) (T U : TypeId) (ck st : FuncId) : Prop where
 fresh : ∀ (b : Nat) (w : World) (cs : Array Value), w.heap[b]? = some (.cells cs T (0, 0)) → 2 ≤ cs.size → cs[0]? = some (.pointer none) →
  Calls P ck #[.pointer (some ⟨b, 0, none⟩)] w fun e w' => e = .returned (.tuple #[]) ∧ w' = w.setCell ⟨b, 0, none⟩ (.pointer (some ⟨b, 0, none⟩))
 used : ∀ (b : Nat) (w : World) (cs : Array Value), w.heap[b]? = some (.cells cs T (0, 0)) → cs[0]? = some (.pointer (some ⟨b, 0, none⟩)) →
  Calls P ck #[.pointer (some ⟨b, 0, none⟩)] w fun e w' => e = .returned (.tuple #[]) ∧ w' = w
 str : ∀ (b g cap : Nat) (w : World) (cs cur : Array Value) (l : List UInt8), w.heap[b]? = some (.cells cs T (0, 0)) → cs[1]? = some (.slice (some ⟨g, 0, none⟩) l.length cap) → w.heap[g]? = some (.cells cur U (0, 0)) →
  l ≠ [] → l.length ≤ cap → cap ≤ 9223372036854775807 → (∀ (j : Nat) (x : UInt8), l[j]? = some x → cur[j]? = some (.int .u8 x.toNat)) →
  Calls P st #[.pointer (some ⟨b, 0, none⟩)] w fun e w' => e = .returned (.string ⟨l.toArray⟩) ∧ Over0 w w' g

variable {T U : TypeId} {ck st : FuncId}
theorem one_arg {x : Value} {args' : Array Value} (hl : VL β [x] args'.toList) : ∃ y, args' = #[y] ∧ VR β x y := by
 obtain ⟨y, r, e, h1, h2⟩ := hl.uncons
 obtain rfl : r = [] := by have := h2.1; simpa using this.symm
 exact ⟨y, Array.toList_inj.1 e, h1⟩
theorem ck_ok (hB : BldOk P T U ck st) {args : List Value} {v : Value} {H' : Hp} (h : ckS T args H = .ok v H') {args' : Array Value} (hw : WF H) (hr : HR (Ab H.ban) β H w) (hl : VL β args args'.toList) : Calls P ck args' w (CallPost β H w v H') := by
 unfold ckS at h
 split at h
 · rename_i b
   obtain ⟨y, rfl, hy⟩ := one_arg hl
   obtain ⟨k, hk, rfl⟩ := hy.ptr_inv (sp := none)
   split at h
   · rename_i q hq
     obtain ⟨h1, h2, h3⟩ := read_inv hq
     have hrow := hr.row b k q hk h1 h2 h3
     obtain ⟨cs, g1, g2, g3⟩ := hrow.cells (read_elem hq)
     unfold ckB at h
     split at h
     · rename_i u e
       rcases cond_split h with ⟨h4, h5⟩ | ⟨_, h5⟩
       · obtain ⟨h6, h7⟩ := and_split h4
         have h6 := of_beq h6
         have h7 := of_beq h7
         cases h5
         have e0 : q.cells[0]? = some (.pointer none) := by rw [e]; rfl
         have e1 : q.cells[1]? = some u := by rw [e]; rfl
         obtain ⟨y0, hy0, hv0⟩ := g3 0 _ e0
         obtain ⟨y1, hy1, hv1⟩ := g3 1 _ e1
         have hsz : 2 ≤ cs.size := by have := (Array.getElem?_eq_some_iff.1 hy1).1; omega
         have hv0' : y0 = .pointer none := by cases hv0; rfl
         subst hv0'
         rw [h6] at g1
         refine (hB.fresh k.blk w cs g1 hsz hy0).mono ?_
         rintro e w' ⟨rfl, rfl⟩
         have hnew : (w.setCell ⟨k.blk, 0, none⟩ (.pointer (some ⟨k.blk, 0, none⟩))).heap[k.blk]? = some (.cells (cs.setIfInBounds 0 (.pointer (some ⟨k.blk, 0, none⟩))) T (0, 0)) := by
          simp [World.setCell, Array.getElem?_modify, g1]
         obtain ⟨s1, s2, s3⟩ := stored (w' := w.setCell ⟨k.blk, 0, none⟩ (.pointer (some ⟨k.blk, 0, none⟩))) hw hr hk h1 h7 h3 (read_elem hq) [.pointer (some ⟨b, 0, none⟩), u] (cs.setIfInBounds 0 (.pointer (some ⟨k.blk, 0, none⟩))) (by simpa using g2) (by
          intro j x hx
          match j, hx with
          | 0, hx =>
            cases hx
            exact ⟨_, by rw [Array.getElem?_setIfInBounds_self_of_lt (by omega)], .ptr hk⟩
          | 1, hx =>
            cases hx
            exact ⟨y1, by rw [Array.getElem?_setIfInBounds_ne (by omega)]; exact hy1, hv1⟩
          | j + 2, hx => simp at hx) ⟨rfl, rfl, rfl, by simp [World.setCell], by rw [h6]; exact hnew, fun i hi => by simp [World.setCell, Array.getElem?_modify, Ne.symm hi]⟩
         exact ⟨β, .tuple #[], rfl, .tuple rfl (fun i x y h => by simp at h), s1, s3, s2⟩
       · cases h5
     · rename_i b' u e
       rcases cond_split h with ⟨h4, h5⟩ | ⟨_, h5⟩
       · obtain ⟨h6, h7⟩ := and_split h4
         have h6 := of_beq h6
         have h7 := of_beq h7
         cases h5
         subst h7
         have e0 : q.cells[0]? = some (.pointer (some ⟨b, 0, none⟩)) := by rw [e]; rfl
         obtain ⟨y0, hy0, hv0⟩ := g3 0 _ e0
         obtain ⟨k2, hk2, rfl⟩ := hv0.ptr_inv (sp := none)
         rw [hk] at hk2; cases hk2
         rw [h6] at g1
         refine (hB.used k.blk w cs g1 hy0).mono ?_
         rintro e w' ⟨rfl, rfl⟩
         exact ⟨β, .tuple #[], rfl, .tuple rfl (fun i x y h => by simp at h), St.refl _ _ _, hw, hr⟩
       · cases h5
     · cases h
   · cases h
 · cases h
theorem str_ok (hB : BldOk P T U ck st) {args : List Value} {v : Value} {H' : Hp} (h : strS T U args H = .ok v H') {args' : Array Value} (hw : WF H) (hr : HR (Ab H.ban) β H w) (hl : VL β args args'.toList) : Calls P st args' w (CallPost β H w v H') := by
 unfold strS at h
 split at h
 · rename_i b
   obtain ⟨y, rfl, hy⟩ := one_arg hl
   obtain ⟨k, hk, rfl⟩ := hy.ptr_inv (sp := none)
   split at h
   · rename_i q hq
     obtain ⟨h1, h2, h3⟩ := read_inv hq
     have hrow := hr.row b k q hk h1 h2 h3
     obtain ⟨cs, g1, g2, g3⟩ := hrow.cells (read_elem hq)
     unfold strB at h
     split at h
     · rename_i p g n c0 e
       rcases cond_split h with ⟨h4, h5⟩ | ⟨_, h5⟩
       · have h4 := of_beq h4
         unfold strC at h5
         split at h5
         · rename_i r hr1
           split at h5
           · rename_i bs hbs
             rcases cond_split h5 with ⟨h6, h7⟩ | ⟨_, h7⟩
             · obtain ⟨h8, h9⟩ := and_split h6
               have h8 := of_beq h8
               have h9 := of_ble h9
               cases h7
               obtain ⟨l, l1, l2⟩ := Option.bind_eq_some_iff.1 hbs
               have l2 := bytesL_mem _ _ l2
               obtain ⟨l3, l4, l5⟩ := cellsAt_eq l1
               have hbn : bs.length = n := by rw [l2] at l5; simpa using l5
               obtain ⟨i1, i2, i3⟩ := read_inv hr1
               have e1 : q.cells[1]? = some (.slice (some ⟨g, 0, none⟩) n c0) := by rw [e]; rfl
               obtain ⟨y1, hy1, hv1⟩ := g3 1 _ e1
               have hc0 : c0 = n := by cases hv1 with | atom h => cases h | slice => rfl | void => rfl
               subst hc0
               rcases hv1.slice_inv with ⟨h, _⟩ | ⟨h, _⟩ | ⟨b', off, kk, c, h, hkk, hnc, hcm, h0, rfl⟩
               · cases h
               · omega
               · cases h
                 obtain ⟨cur, w1, w2, w3⟩ := (hr.row g kk r hkk i1 i2 i3).cells (read_elem hr1)
                 rw [h4] at g1
                 rw [h8] at w1
                 have hcc : c0 = bs.length := hbn.symm
                 subst hcc
                 refine (hB.str k.blk kk.blk c w cs cur bs g1 hy1 w1 (fun e => by rw [e] at h9; simp at h9) hnc hcm (fun j x hx => ?_)).mono ?_
                 · have hxl : l[j]? = some (.int .u8 (x.toNat : Int)) := by rw [l2]; simp [hx]
                   rw [l4, List.getElem?_take] at hxl
                   split at hxl
                   · rw [List.getElem?_drop, Nat.zero_add] at hxl
                     obtain ⟨y, hy, hv⟩ := w3 j _ hxl
                     rw [hy, hv.int]
                   · cases hxl
                 · rintro e w' ⟨rfl, ho⟩
                   obtain ⟨s1, s2, s3⟩ := sealed hw hr hkk i1 i3 ho
                   exact ⟨β, _, rfl, .atom rfl, s1, s3, s2⟩
             · cases h7
           · cases h5
         · cases h5
       · cases h5
     · cases h
   · cases h
 · cases h
end
end
section
open Go.RowKit

theorem mixed : Tryd.prog.follows .mixedOrders = true := by kernel_rfl
def okT : Ret → Bool
 | .ok (.bool true) _ => true
 | _ => false
theorem okT_inv {r : Ret} (h : okT r = true) : ∃ H, r = .ok (.bool true) H := by
 unfold okT at h
 split at h
 · exact ⟨_, rfl⟩
 · cases h
/-- a run without arguments that tells true -/
theorem run_true (n : Nat) (f : FuncId) (h : okT (callF Tryd.prog n f [] Hp.none) = true) (w : World) : Calls Tryd.prog f #[] w fun e w' => e = .returned (.bool true) ∧ Below w.heap.size w w' := by
 obtain ⟨H, h1⟩ := okT_inv h
 letI : Inhabited Base := ⟨⟨fun _ => none, fun _ => none⟩⟩
 exact run_sound (fun _ => rfl) (fun _ => rfl) XOk.none (fun call hc => region_ok mixed hc) n f [] (fun x hx => by cases hx) (.bool true) H rfl h1 w
end
section
open Go.RowKit
set_option linter.unusedVariables false
set_option linter.unusedSimpArgs false
variable {bs : Inhabited Base}
noncomputable section
/-- the rest of a function's code, from some slots on -/
def sufS (P : Program) (X : XF) (n : Nat) (fn : Func) (c : Code) (R : Regs) (H : Hp) : Ret := endS' P fn (codeS P X n c R H)
/-- statements passed by -/
def dropC (n : Nat) (c : Code) : Code :=
 Nat.rec (motive := fun _ => Code → Code) (fun c => c) (fun _ g c => match c with | .seq _ b => g b | c => c) n c
/-- some slots, nothing known of the others -/
def slotS (l : List (Nat × Value)) : Regs := List.rec (motive := fun _ => Regs) unkT (fun p _ T => T.set p.2 (Nat.succ p.1)) l
end
section
variable {P : Program}
theorem slot_wide : ∀ l, Wide (slotS l)
 | [] => sel_wide (Tr.nil) []
 | p :: r => fun j hj => by
   show ((slotS r).set p.2 (Nat.succ p.1)).inb (j + 1) = true
   rw [Tr.inb_set]; exact slot_wide r j hj
theorem slot_RR {β : Bij} {tmps : Array Value} (hs : tmps.size ≤ 1000) : ∀ (l : List (Nat × Value)), (∀ p, p ∈ l → p.1 < 1000 ∧ VR β p.2 (tmps.getD p.1 undef)) → RR β (slotS l) tmps
 | [], _ => sel_RR (R := Tr.nil) hs [] (fun t h => by cases h)
 | p :: r, h => by
   intro t
   show VR β (getR ((slotS r).set p.2 (Nat.succ p.1)) t) _
   have hp := h p (List.mem_cons_self ..)
   rw [getR_set _ _ _ _ (slot_wide r p.1 hp.1)]
   by_cases e : t = p.1
   · subst e; rw [if_pos rfl]; exact hp.2
   · rw [if_neg e]; exact slot_RR hs r (fun q hq => h q (List.mem_cons_of_mem _ hq)) t
theorem suffix_fin {fn : Func} {v : Value} {H' : Hp} {N : Nat} {β : Bij} {H : Hp} {w : World} {e0 : Ex} {R1 : Regs} {H1 : Hp} (hrun : endS' P fn (.ok e0 R1 H1) = .ok v H')
  {e : Exit} {a : Act} {w' : World} (he : ExR e0 e) {β' : Bij} (hst : St β H w β' H1 w') (hs : S N β' R1 H1 a w') :
  bodyPost P fn (CallPost β H w v H') e a w' := by
 have fin : retL H1 (ressS P R1 H1 fn.results.toList) = .ok v H' → a.defers = [] ∧ ∃ u, (results fn a.tmps).run P w' = .ok u w' ∧ CallPost β H w v H' (.returned u) w' := by
  intro hret
  obtain ⟨rfl, u, hu, hrunr⟩ := results_run (P := P) hs.hr (fun b hb => hb) hs.rr fn hret
  exact ⟨hs.defers, u, hrunr, β', u, rfl, hu, hst, hs.wf, by rw [← hst.ban]; exact hs.hr⟩
 cases e0 with
 | normal => cases e <;> first | exact he.elim | exact fin hrun
 | ret => cases e <;> first | exact he.elim | exact fin hrun
 | exit i => cases hrun
theorem suffix_ok {X : XF} (hX : XOk P X) (hreg : ∀ call, CallOk P call → RegionOk P call) {fn : Func} {n : Nat} {c1 c2 : Code} {R : Regs} {H : Hp} {v : Value} {H' : Hp}
  (hrun : sufS P X (n + 1) fn (.seq c1 c2) R H = .ok v H') (hok : codeOk fn.ntmps (.seq c1 c2) = true) {β : Bij} {a : Act} {w : World} (hs : S fn.ntmps β R H a w)
  {Q : Exit → Act → World → Prop} {K : Act → World → Prop} (hk : ∀ a w, Code.wp P c2 Q a w → K a w)
  (hQ : ∀ e a' w', bodyPost P fn (CallPost β H w v H') e a' w' → Q e a' w') : Code.wp P c1 (Exit.then K Q) a w := by
 obtain ⟨h1, h2⟩ := codeOk_seq hok
 have hcode := code_sound hX hreg n
 have hrun' : endS' P fn (seqS (codeS P X n c2) (codeS P X n c1 R H)) = .ok v H' := hrun
 cases hx : codeS P X n c1 R H with
 | bad k l => rw [hx] at hrun'; cases hrun'
 | ok e1 R1 H1 =>
   rw [hx] at hrun'
   refine wp_mono (hcode fn.ntmps c1 R H e1 R1 H1 hx h1 β a w hs) ?_
   rintro e2 a2 w2 ⟨he, β2, h3, h4⟩
   cases e1 with
   | normal =>
     cases e2 <;> first | exact he.elim | skip
     have hrun2 : endS' P fn (codeS P X n c2 R1 H1) = .ok v H' := hrun'
     refine hk a2 w2 ?_
     cases hy : codeS P X n c2 R1 H1 with
     | bad k l => rw [hy] at hrun2; cases hrun2
     | ok e3 R3 H3 =>
       rw [hy] at hrun2
       refine wp_mono (hcode fn.ntmps c2 R1 H1 e3 R3 H3 hy h2 β2 a2 w2 h4) ?_
       rintro e4 a4 w4 ⟨he4, β4, h5, h6⟩
       exact hQ e4 a4 w4 (suffix_fin hrun2 he4 (St.tr hs.hr h4.hr hs.wf h3 h5) h6)
   | exit i => cases hrun'
   | ret =>
     have hrun2 : endS' P fn (.ok .ret R1 H1) = .ok v H' := hrun'
     cases e2 <;> first | exact he.elim | skip
     exact hQ _ a2 w2 (suffix_fin hrun2 (e := .ret) trivial h3 h4)
end
end
section
open Go.RowKit
set_option linter.unusedVariables false
set_option linter.unusedSimpArgs false
noncomputable section
/-- does a text begin so -/
def preL (p : List UInt8) : List UInt8 → Bool :=
 List.rec (motive := fun _ => List UInt8 → Bool) (fun _ => true)
  (fun x _ g m => List.casesOn (motive := fun _ => Bool) m false (fun y r => cond (Nat.beq x.toNat y.toNat) (g r) false)) p
/-- the first place of a text that is not empty -/
def idxL (sub s : List UInt8) : Nat → Option Nat :=
 List.rec (motive := fun _ => Nat → Option Nat) (fun _ => none) (fun b r g i => cond (preL sub (b :: r)) (some i) (g (Nat.succ i))) s
def shortB (s : List UInt8) : Bool := Nat.ble (lenL s) 1000000
def placeR (H : Hp) : Option Nat → Ret
 | some i => .ok (.int .i64 (.ofNat i)) H
 | none => .ok (.int .i64 (.negSucc 0)) H
def placeS (args : List Value) (H : Hp) : Ret := match args with
 | [.string s, .string sep] => cond (Nat.ble 1 (lenL sep.data.toList) && shortB s.data.toList) (placeR H (idxL sep.data.toList s.data.toList 0)) (.bad 162 [])
 | _ => .bad 163 []
/-- digits alone -/
def decG (l : List UInt8) : Nat → Option Nat :=
 List.rec (motive := fun _ => Nat → Option Nat) (fun n => some n) (fun b _ g n => cond (Nat.ble 48 b.toNat && Nat.ble b.toNat 57) (forceN (Nat.add (Nat.mul n 10) (Nat.sub b.toNat 48)) g) none) l
def atoiR (H : Hp) : Option Nat → Ret
 | some n => cond (Nat.ble n 999999) (.ok (.tuple #[.int .i64 (.ofNat n), .nilIface]) H) (.bad 173 [])
 | none => .bad 167 []
def atoiS (args : List Value) (H : Hp) : Ret := match args with
 | [.string s] => cond (Nat.ble 1 (lenL s.data.toList) && Nat.ble (lenL s.data.toList) 18) (atoiR H (decG s.data.toList 0)) (.bad 168 [])
 | _ => .bad 169 []
def preS (args : List Value) (H : Hp) : Ret := match args with
 | [.string s, .string p] => .ok (.bool (preL p.data.toList s.data.toList)) H
 | _ => .bad 170 []
/-- the first place of a byte -/
def ixbL (c : Nat) (s : List UInt8) : Nat → Option Nat :=
 List.rec (motive := fun _ => Nat → Option Nat) (fun _ => none) (fun b _ g i => cond (Nat.beq b.toNat c) (some i) (g (Nat.succ i))) s
def ixbS (args : List Value) (H : Hp) : Ret := match args with
 | [.string s, .int .u8 (.ofNat c)] => cond (Nat.ble c 255) (placeR H (ixbL c s.data.toList 0)) (.bad 171 [])
 | _ => .bad 172 []
def XL : XF := fun f =>
 cond (Nat.beq f 58) (some placeS) (cond (Nat.beq f 106) (some ixbS) (cond (Nat.beq f 105) (some preS) (cond (Nat.beq f 111) (some atoiS) none)))
end
theorem preL_eq : ∀ (p s : List UInt8), preL p s = p.isPrefixOf s
 | [], s => by cases s <;> rfl
 | x :: p, [] => rfl
 | x :: p, y :: s => by
   show cond (Nat.beq x.toNat y.toNat) (preL p s) false = (x == y && p.isPrefixOf s)
   rw [preL_eq p s]
   by_cases h : x = y
   · subst h
     rw [Nat.beq_refl, cond_t]; simp
   · have h1 : Nat.beq x.toNat y.toNat = false := by
      cases e : Nat.beq x.toNat y.toNat with
      | false => rfl
      | true => exact absurd (UInt8.toNat_inj.1 (Nat.eq_of_beq_eq_true e)) h
     have h2 : (x == y) = false := by simpa using h
     rw [h1, h2]; rfl
theorem idxL_eq (sub : List UInt8) (hs : sub ≠ []) : ∀ (s : List UInt8) (i : Nat), idxL sub s i = if Lib.index s sub = -1 then none else some (i + (Lib.index s sub).toNat)
 | [], i => by
   have : Lib.index [] sub = -1 := by
    unfold Lib.index
    cases sub with
    | nil => exact absurd rfl hs
    | cons a r => rfl
   rw [if_pos this]; rfl
 | b :: l, i => by
   show cond (preL sub (b :: l)) (some i) (idxL sub l (Nat.succ i)) = _
   rw [preL_eq, idxL_eq sub hs l (Nat.succ i)]
   have hge := Lib.index_ge l sub
   have he : Lib.index (b :: l) sub = if sub.isPrefixOf (b :: l) then 0 else if Lib.index l sub == -1 then -1 else Lib.index l sub + 1 := by rw [Lib.index]
   cases hp : sub.isPrefixOf (b :: l) with
   | true =>
     have : Lib.index (b :: l) sub = 0 := by rw [he, if_pos hp]
     rw [this]; rfl
   | false =>
     show (if Lib.index l sub = -1 then none else some (Nat.succ i + (Lib.index l sub).toNat)) = _
     by_cases h1 : Lib.index l sub = -1
     · have : Lib.index (b :: l) sub = -1 := by rw [he, hp]; simp [h1]
       rw [if_pos h1, if_pos this]
     · have : Lib.index (b :: l) sub = Lib.index l sub + 1 := by rw [he, hp]; simp [h1]
       rw [if_neg h1, this, if_neg (by omega)]
       congr 1
       omega
theorem ixbL_eq (c : Nat) (hc : c ≤ 255) : ∀ (s : List UInt8) (i : Nat), ixbL c s i = if Lib.indexByte s c.toUInt8 = -1 then none else some (i + (Lib.indexByte s c.toUInt8).toNat)
 | [], i => by rfl
 | b :: l, i => by
   show cond (Nat.beq b.toNat c) (some i) (ixbL c l (Nat.succ i)) = _
   rw [ixbL_eq c hc l (Nat.succ i)]
   have hge := Lib.indexByte_ge l c.toUInt8
   have he : Lib.indexByte (b :: l) c.toUInt8 = if b == c.toUInt8 then 0 else if Lib.indexByte l c.toUInt8 == -1 then -1 else Lib.indexByte l c.toUInt8 + 1 := by rw [Lib.indexByte]
   have hb : (b == c.toUInt8) = Nat.beq b.toNat c := by
    have e1 : c.toUInt8.toNat = c := by
     show (UInt8.ofNat c).toNat = c
     rw [UInt8.toNat_ofNat']; omega
    cases e : Nat.beq b.toNat c with
    | true =>
      have := Nat.eq_of_beq_eq_true e
      exact beq_iff_eq.2 (UInt8.toNat_inj.1 (by rw [e1]; exact this))
    | false =>
      have := Nat.ne_of_beq_eq_false e
      exact beq_eq_false_iff_ne.2 (fun h => this (by rw [h, e1]))
   rw [he, hb]
   cases Nat.beq b.toNat c with
   | true => rfl
   | false =>
     show (if Lib.indexByte l c.toUInt8 = -1 then none else some (Nat.succ i + (Lib.indexByte l c.toUInt8).toNat)) = _
     by_cases h1 : Lib.indexByte l c.toUInt8 = -1
     · rw [h1]; rfl
     · have h2 : (Lib.indexByte l c.toUInt8 == -1) = false := beq_eq_false_iff_ne.2 h1
       rw [h2, if_neg h1]
       simp only [Bool.false_eq_true, if_false]
       rw [if_neg (by omega)]
       congr 1
       omega
theorem decG_digs : ∀ (l : List UInt8) (n m : Nat), decG l n = some m → Digs l ∧ horA n l = m
 | [], n, m, h => ⟨fun c hc => absurd hc (by simp), Option.some.inj h⟩
 | b :: l, n, m, h => by
   have h : cond (Nat.ble 48 b.toNat && Nat.ble b.toNat 57) (forceN (Nat.add (Nat.mul n 10) (Nat.sub b.toNat 48)) (decG l)) none = some m := h
   rcases cond_split h with ⟨h1, h2⟩ | ⟨_, h2⟩
   · obtain ⟨h3, h4⟩ := and_split h1
     have h3 := of_ble h3
     have h4 := of_ble h4
     rw [forceN_eq] at h2
     obtain ⟨h5, h6⟩ := decG_digs l _ _ h2
     refine ⟨fun c hc => ?_, by rw [horA_cons]; exact h6⟩
     rcases List.mem_cons.1 hc with rfl | hc
     · exact ⟨h3, h4⟩
     · exact h5 c hc
   · cases h2
theorem atoi_okL {l : List UInt8} {m : Nat} (h1 : 1 ≤ l.length) (h : decG l 0 = some m) (hm : m ≤ 999999) : Lib.atoiAll l = .ok (m : Int) := by
 obtain ⟨h2, h3⟩ := decG_digs l 0 m h
 have h4 := (atoi_digs l h2 (fun e => by rw [e] at h1; simp at h1)).2 (by omega)
 rw [h3] at h4; exact h4
def baseOf (w0 : World) : Base := ⟨fun _ => none, fun r => w0.heap[r]?⟩
theorem maxAt_row {w w' : World} (h : MaxAt w) (hb : ∀ (r : Nat) (o : Obj), w.heap[r]? = some o → w'.heap[r]? = some o) : MaxAt w' := by
 obtain ⟨m, hm⟩ := h
 refine ⟨m, ?_⟩
 have hlt := World.block_lt_of_cell? _ _ hm
 have h1 : w.heap[0]? = some (w.heap[0]) := Array.getElem?_eq_getElem hlt
 have h2 := hb _ _ h1
 unfold World.cell? at *
 rw [h2]; rw [h1] at hm; exact hm
section
variable {w0 : World}
theorem two_args {β : Bij} {x y : Value} {args' : Array Value} (hl : VL β [x, y] args'.toList) : ∃ u v, args' = #[u, v] ∧ VR β x u ∧ VR β y v := by
 obtain ⟨u, r, e, h1, h2⟩ := hl.uncons
 obtain ⟨v, r2, e2, h3, h4⟩ := h2.uncons
 obtain rfl : r2 = [] := by have := h4.1; simpa using this.symm
 subst e2
 exact ⟨u, v, Array.toList_inj.1 e, h1, h3⟩
theorem toList_length (s : ByteArray) : s.data.toList.length = s.size := rfl
theorem xl_ok (hE : MaxAt w0) : letI : Inhabited Base := ⟨baseOf w0⟩; XOk Tryd.prog XL := by
 letI : Inhabited Base := ⟨baseOf w0⟩
 intro f k hk args H v H' h β w args' hw hr hl
 have hrow : ∀ (r : Nat) (o : Obj), w0.heap[r]? = some o → w.heap[r]? = some o := fun r o e => hr.fix r o e
 obtain ⟨mx, hmx⟩ := maxAt_row hE hrow
 unfold XL at hk
 rcases cond_split hk with ⟨h1, h2⟩ | ⟨_, hk⟩
 · have h1 := of_beq h1
   subst h1
   cases h2
   unfold placeS at h
   split at h
   · rename_i s sep
     rcases cond_split h with ⟨h3, h4⟩ | ⟨_, h4⟩
     · obtain ⟨h5, h6⟩ := and_split h3
       have h5 := of_ble h5
       have h6 := of_ble h6
       rw [lenL_eq] at h5 h6
       have hne : sep.data.toList ≠ [] := fun e => by rw [e] at h5; simp at h5
       have hc := Tryd.strings_Index s sep mx w (by rw [toList_length] at h6; omega) hmx
       rw [idxL_eq _ hne] at h4
       have hge := Lib.index_ge s.data.toList sep.data.toList
       have hv : v = .int .i64 (Lib.index s.data.toList sep.data.toList) ∧ H' = H := by
        by_cases hi : Lib.index s.data.toList sep.data.toList = -1
        · rw [if_pos hi] at h4
          cases h4
          rw [hi]
          exact ⟨rfl, rfl⟩
        · rw [if_neg hi] at h4
          cases h4
          refine ⟨?_, rfl⟩
          congr 1
          show ((0 + (Lib.index s.data.toList sep.data.toList).toNat : Nat) : Int) = _
          omega
       obtain ⟨rfl, rfl⟩ := hv
       refine pure_post (fun x hx => by rcases List.mem_cons.1 hx with rfl | hx; rfl; rcases List.mem_singleton.1 hx with rfl; rfl)
        (fun β => .atom rfl) (hc.mono ?_) hw hr hl
       rintro e w' ⟨rfl, rfl⟩
       exact ⟨rfl, Below.refl _ _⟩
     · cases h4
   · cases h
 rcases cond_split hk with ⟨h1, h2⟩ | ⟨_, hk⟩
 · have h1 := of_beq h1
   subst h1
   cases h2
   unfold ixbS at h
   split at h
   · rename_i s c
     rcases cond_split h with ⟨h3, h4⟩ | ⟨_, h4⟩
     · have h5 := of_ble h3
       have hc := Tryd.strings_IndexByte s (Int.ofNat c) w
       have e1 : (Int.ofNat c).toNat.toUInt8 = c.toUInt8 := rfl
       rw [e1] at hc
       rw [ixbL_eq c h5] at h4
       have hge := Lib.indexByte_ge s.data.toList c.toUInt8
       have hv : v = .int .i64 (Lib.indexByte s.data.toList c.toUInt8) ∧ H' = H := by
        by_cases hi : Lib.indexByte s.data.toList c.toUInt8 = -1
        · rw [if_pos hi] at h4
          cases h4
          rw [hi]
          exact ⟨rfl, rfl⟩
        · rw [if_neg hi] at h4
          cases h4
          refine ⟨?_, rfl⟩
          congr 1
          show ((0 + (Lib.indexByte s.data.toList c.toUInt8).toNat : Nat) : Int) = _
          omega
       obtain ⟨rfl, rfl⟩ := hv
       refine pure_post (fun x hx => by rcases List.mem_cons.1 hx with rfl | hx; rfl; rcases List.mem_singleton.1 hx with rfl; rfl)
        (fun β => .atom rfl) (hc.mono ?_) hw hr hl
       rintro e w' ⟨rfl, rfl⟩
       exact ⟨rfl, Below.refl _ _⟩
     · cases h4
   · cases h
 rcases cond_split hk with ⟨h1, h2⟩ | ⟨_, hk⟩
 · have h1 := of_beq h1
   subst h1
   cases h2
   unfold preS at h
   split at h
   · rename_i s p
     cases h
     rw [preL_eq]
     refine pure_post (fun x hx => by rcases List.mem_cons.1 hx with rfl | hx; rfl; rcases List.mem_singleton.1 hx with rfl; rfl)
      (fun β => .atom rfl) ((Tryd.strings_HasPrefix s p w).mono ?_) hw hr hl
     rintro e w' ⟨rfl, rfl⟩
     exact ⟨rfl, Below.refl _ _⟩
   · cases h
 rcases cond_split hk with ⟨h1, h2⟩ | ⟨_, hk⟩
 · have h1 := of_beq h1
   subst h1
   cases h2
   unfold atoiS at h
   split at h
   · rename_i s
     rcases cond_split h with ⟨h3, h4⟩ | ⟨_, h4⟩
     · obtain ⟨h5, h6⟩ := and_split h3
       have h5 := of_ble h5
       have h6 := of_ble h6
       rw [lenL_eq] at h5 h6
       cases hd : decG s.data.toList 0 with
       | none => rw [hd] at h4; cases h4
       | some n =>
         rw [hd] at h4
         have h4 : cond (Nat.ble n 999999) (Ret.ok (.tuple #[.int .i64 (.ofNat n), .nilIface]) H) (.bad 173 []) = .ok v H' := h4
         rcases cond_split h4 with ⟨h7, h4⟩ | ⟨_, h4⟩
         case inr => cases h4
         have h7 := of_ble h7
         cases h4
         have hsz : s.data.toList.length = s.size := rfl
         refine pure_post (fun x hx => by rcases List.mem_singleton.1 hx with rfl; rfl)
          (fun β => .tuple rfl (VL.cons (.atom rfl) (VL.cons (.atom rfl) (VL.nil β))).2) ((Tryd.strconv_Atoi_ok s (by omega) n (atoi_okL h5 hd h7) w).mono ?_) hw hr hl
         rintro e w' ⟨rfl, hw2⟩
         refine ⟨rfl, ?_⟩
         rcases hw2 with rfl | ⟨t, rfl⟩
         · exact Below.refl _ _
         · exact ⟨rfl, rfl, rfl, by rw [Lib.bytesWorld_size]; omega, fun r hr => Lib.bytesWorld_at_old w _ t r hr⟩
     · cases h4
   · cases h
 · cases hk
/-- a run without arguments that tells true -/
theorem run_envL (hE : MaxAt w0) (n : Nat) (f : FuncId) (h : okT (callX Tryd.prog XL n f [] Hp.none) = true) : Calls Tryd.prog f #[] w0 fun e w' => e = .returned (.bool true) ∧ Below w0.heap.size w0 w' := by
 obtain ⟨H, h1⟩ := okT_inv h
 letI : Inhabited Base := ⟨baseOf w0⟩
 have hr : HR (Ab Hp.none.ban) (fun _ => none) Hp.none w0 := ⟨fun b k h => (by cases h), fun b k q h => (by cases h), fun b b' k k' q q' h => (by cases h), fun b k h => (by cases h), fun r o e => e, fun b k h => (by cases h)⟩
 have hl : VL (fun _ => none) [] (#[] : Array Value).toList := VL.nil _
 refine (run_from (xl_ok hE) (fun call hc => region_ok mixed hc) n f [] h1 none_WF hr hl).mono ?_
 rintro e w' ⟨β', v', rfl, h1, h2, h3, h4⟩
 refine ⟨by rw [h1.of_flat rfl], h2.os, h2.tape, h2.output, h2.size, fun k hk => h2.block k hk (fun b k' q hb => by cases hb)⟩
end
end
section
open Go.RowKit
theorem wakes7_run : okT (callX Tryd.prog XL 100000 8 [] Hp.none) = true := by kernel_rfl
theorem wakes7_any (w : World) (hE : MaxAt w) : Calls Tryd.prog 8 #[] w fun e w' => e = .returned (.bool true) ∧ Below w.heap.size w w' :=
 run_envL hE 100000 8 wakes7_run
end
end Go.Proofs.YtnoppoifepbchaaDoor.Sh
