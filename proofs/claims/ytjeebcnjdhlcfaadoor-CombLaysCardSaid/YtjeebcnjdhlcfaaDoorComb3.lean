/- The library's stable sort of fewer than twenty; comb.inTurn. -/
import Derived.Test.YtjeebcnjdhlcfaaDoorComb2
namespace Go.Proofs.YtjeebcnjdhlcfaaDoor
section
open Go.RowKit Go.Sort Go.Shelf
set_option linter.unusedVariables false
set_option linter.unusedSimpArgs false

def natV (i : Nat) : Value := .int .i64 (i : Int)
/-- the closure's value -/
abbrev cmpF (a : Addr) : Value := .func (.func 28) #[] #[.pointer (some a)]

theorem ins_none (f : Value) (w : World) : Calls Tryd.prog 35 #[.slice none 0 0, .int .i64 0, .int .i64 0, f] w fun e w' => e = .returned (.tuple #[]) ∧ w = w' := by
  go_enter Tryd.func35, Tryd.ntmps35
  go_wp2_with fail
  go_loop [8] (fun i => i = .int .i64 1) (fun _ => 0)
  case atStart => rfl
  case round =>
    subst hrel
    go_wp2_with fail
    go_end0
    exact ⟨rfl, rfl⟩

theorem ins_any (v : Value) (rows : List (List Pr)) (a : Addr) (w1 : World) (h : PRowsV w1 v rows) (hc : w1.cell? a = some v) (g cap m : Nat) (w : World) (hb : Below w1.heap.size w1 w)
    (ho : w.ownsRow w1.heap.size 3 1 (.slice (some ⟨g, 0, none⟩) m cap) m ((fullS rows).map natV)) (hm : m = (fullS rows).length) (hpos : 0 < m) (hl : m < 20) :
    Calls Tryd.prog 35 #[.slice (some ⟨g, 0, none⟩) m cap, .int .i64 0, .int .i64 (m : Int), cmpF a] w fun e w' => e = .returned (.tuple #[]) ∧ w'.ownsRow w1.heap.size 3 1 (.slice (some ⟨g, 0, none⟩) m cap) m ((orderS rows).map natV) ∧ w.grownBy w' (some g) := by
  have hne : fullS rows ≠ [] := by intro e; rw [e] at hm; simp at hm; omega
  obtain ⟨i0, hi0⟩ := List.exists_mem_of_ne_nil _ hne
  have hr0 := ((mem_fullS rows i0).1 hi0).1
  obtain ⟨n, hn⟩ : ∃ n, rows.length = n + 1 := ⟨rows.length - 1, by omega⟩
  obtain ⟨d, hd⟩ : ∃ d : Array (Fin (n + 1)), d.toList.map (·.val) = fullS rows := by
    have hall : ∀ l : List Nat, (∀ i ∈ l, i < n + 1) → ∃ d : List (Fin (n + 1)), d.map (·.val) = l := by
      intro l
      induction l with
      | nil => intro _; exact ⟨[], rfl⟩
      | cons x t ih =>
        intro hx
        obtain ⟨d, hd⟩ := ih (fun i hi => hx i (List.mem_cons_of_mem _ hi))
        exact ⟨⟨x, hx x (by simp)⟩ :: d, by simp [hd]⟩
    obtain ⟨d, hd⟩ := hall (fullS rows) (fun i hi => by have := ((mem_fullS rows i).1 hi).1; omega)
    exact ⟨d.toArray, by simpa using hd⟩
  have hds : d.size = m := by
    have := congrArg List.length hd
    simp at this; omega
  have enc1 : ∀ d : Array (Fin (n + 1)), d.toList.map (fun i => natV i.val) = (d.toList.map (·.val)).map natV := fun d => by rw [List.map_map]; rfl
  have hgb := (ho.lt g rfl)
  have eg : ∀ args w, (callFunc 28 args).run Tryd.prog w = .ok (.enter 28 args) w := enters_of Tryd.func28 (by kernel_rfl) rfl
  have hreads : CmpReads Tryd.prog 28 #[.pointer (some a)] (fun i : Fin (n + 1) => natV i.val) (fun x y => cmpLen rows x.val y.val) g 0 d.size w := by
    intro mm os dk hdk x y
    have hgr := sortW_grown (fun i : Fin (n + 1) => natV i.val) w g mm dk os
    have hbW : Below w1.heap.size w1 (sortWorld (fun i : Fin (n + 1) => natV i.val) w g 0 mm dk os) := hb.grown hgr hb.size (fun k hk => by cases hk; exact hgb.1)
    exact turn_any v rows x.val y.val (by omega) (by omega) a _ (PRowsV.below h hbW) ((hbW.cell (World.block_lt_of_cell? _ _ hc)).trans hc)
  have hholds : Holds (fun i : Fin (n + 1) => natV i.val) w g 0 d := by
    intro j hj
    refine ⟨?_, ho.frozenAt _⟩
    rw [Nat.zero_add, ho.cellAt j (by omega), ← hd, List.map_map, List.getElem?_map, Array.getElem?_toList, Array.getElem?_eq_getElem hj, getElem!_pos d j hj]
    rfl
  have hcon := Any.insertionSortCmpFunc_s (P := Tryd.prog) Tryd.insInts (fun i : Fin (n + 1) => natV i.val) (fun x y => cmpLen rows x.val y.val) 28 #[.pointer (some a)] g 0 cap 0 d.size d d w w eg hreads.lays ⟨fun x => rfl, hholds, hgb.2⟩ rfl (SW.start hholds) (Nat.zero_le _) (Nat.le_refl _) (by omega)
  have hso := sort_order rows n hn (ltOf (fun x y : Fin (n + 1) => cmpLen rows x.val y.val)) (fun x y => rfl) d hd
  rw [hds] at hcon hso
  refine (show Calls Tryd.prog 35 #[.slice (some ⟨g, 0, none⟩) m cap, .int .i64 0, .int .i64 (m : Int), cmpF a] w _ from hcon).mono ?_
  rintro e w' ⟨rfl, q, os, rfl⟩
  refine ⟨rfl, ?_, sortW_grown _ _ _ _ _ _⟩
  rw [← hso, ← enc1]
  refine sortW_own ho _ _ ?_ _ _
  have := congrArg List.length hso
  rw [List.length_map, orderS_len] at this
  simp at this
  omega

theorem stable_any (v : Value) (rows : List (List Pr)) (a : Addr) (w1 : World) (h : PRowsV w1 v rows) (hc : w1.cell? a = some v) (g cap m : Nat) (w : World) (hb : Below w1.heap.size w1 w)
    (ho : w.ownsRow w1.heap.size 3 1 (.slice (some ⟨g, 0, none⟩) m cap) m ((fullS rows).map natV)) (hm : m = (fullS rows).length) (hpos : 0 < m) (hl : m < 20) :
    Calls Tryd.prog 27 #[.slice (some ⟨g, 0, none⟩) m cap, cmpF a] w fun e w' => e = .returned (.tuple #[]) ∧ w'.ownsRow w1.heap.size 3 1 (.slice (some ⟨g, 0, none⟩) m cap) m ((orderS rows).map natV) ∧ w.grownBy w' (some g) := by
  have HX := Lib.hid (ins_any v rows a w1 h hc g cap m w hb ho hm hpos hl)
  have h1 : ¬ (20 : Int) ≤ (m : Int) := by omega
  have h2 : ¬ (20 : Int) < (m : Int) := by omega
  have HI : Hid (Calls Tryd.prog 32 #[.slice (some ⟨g, 0, none⟩) m cap, .int .i64 (m : Int), cmpF a] w fun e w' => e = .returned (.tuple #[]) ∧ w'.ownsRow w1.heap.size 3 1 (.slice (some ⟨g, 0, none⟩) m cap) m ((orderS rows).map natV) ∧ w.grownBy w' (some g)) := Lib.hid (by
    clear h hc hb ho hm hpos hl
    go_enter Tryd.func32, Tryd.ntmps32
    go_wp2_with fail
    go_loop [7, 8] (fun x y => x = .int .i64 0 ∧ y = .int .i64 20) (fun _ _ => 0)
    case atStart => exact ⟨rfl, rfl⟩
    case round =>
      obtain ⟨rfl, rfl⟩ := hrel
      go_wp2_with (first | (go_at_call 35; refine HX.out.mono ?_; rintro e w9 ⟨rfl, ho9, hg9⟩))
      go_loop [6] (fun x => x = .int .i64 20) (fun _ => 0)
      case atStart => rfl
      case round =>
        subst hrel
        go_wp2_with fail
        go_end0
        exact ⟨rfl, ho9, hg9⟩)
  clear HX h hc hb ho hm hpos hl h1 h2
  go_enter Tryd.func27, Tryd.ntmps27
  go_wp2_with (first | (go_at_call 32; refine HI.out.mono ?_; rintro e w9 ⟨rfl, ho9, hg9⟩))
  go_end0
  exact ⟨rfl, ho9, hg9⟩
theorem stable_none (f : Value) (w : World) : Calls Tryd.prog 27 #[.slice none 0 0, f] w fun e w' => e = .returned (.tuple #[]) ∧ w = w' := by
  have HX := Lib.hid (ins_none f w)
  have HI : Hid (Calls Tryd.prog 32 #[.slice none 0 0, .int .i64 0, f] w fun e w' => e = .returned (.tuple #[]) ∧ w = w') := Lib.hid (by
    go_enter Tryd.func32, Tryd.ntmps32
    go_wp2_with fail
    go_loop [7, 8] (fun x y => x = .int .i64 0 ∧ y = .int .i64 20) (fun _ _ => 0)
    case atStart => exact ⟨rfl, rfl⟩
    case round =>
      obtain ⟨rfl, rfl⟩ := hrel
      go_wp2_with (first | (go_at_call 35; refine HX.out.mono ?_; rintro e w9 ⟨rfl, rfl⟩))
      go_loop [6] (fun x => x = .int .i64 20) (fun _ => 0)
      case atStart => rfl
      case round =>
        subst hrel
        go_wp2_with fail
        go_end0
        exact ⟨rfl, rfl⟩)
  clear HX
  go_enter Tryd.func27, Tryd.ntmps27
  go_wp2_with (first | (go_at_call 32; refine HI.out.mono ?_; rintro e w9 ⟨rfl, rfl⟩))
  go_end0
  exact ⟨rfl, rfl⟩
end
end Go.Proofs.YtjeebcnjdhlcfaaDoor
