/- Sorted of no names; what the document fixes of names. -/
import Derived.Test.YtijnekbhpdcemaaNames11
import Derived.Test.YtijnekbhpdcemaaEqInts
namespace Go.Proofs.Ytijnekbhpdcemaa
open Go.RowKit Go.Maps Go.Sort
set_option linter.unusedVariables false

/-- what the library's sort does at no element -/
def SortsNone : Prop := ∀ (p : Option Addr) (cap : Nat) (fv : Value) (w : World),
    Calls Try.prog 17 #[.slice p 0 cap, fv] w fun e w' => e = .returned (.tuple #[]) ∧ w' = w

def TellsNone (w : World) (e : Ending) (w' : World) : Prop := (∃ v, e = .returned v ∧ IntsV w' v []) ∧ Below w.heap.size w w'

theorem sorted_none (b base : Nat) (w : World) (h : NamesV w base b []) (hS : SortsNone) :
    Calls Try.prog 14 #[.pointer (some ⟨b, 0, none⟩)] w (TellsNone w) := by
  obtain ⟨_, hn, sv, mv, hb, hr, _⟩ := h
  obtain ⟨a, c, rfl⟩ := row_slice hr
  obtain ⟨c0, c1⟩ := cells_two hb
  have hblt := lt_of_block hb
  have HS := Lib.hid hS
  have c0' : ∀ o : Obj, (w.alloc o).cell? ⟨b, 0, none⟩ = some (.slice a 0 c) := fun o => by rw [World.cell?_alloc_lt _ _ _ hblt]; exact c0
  have hmk := fun (W : World) => run_make_row' (P := Try.prog) 33 3 (.int .i64 0) 8 Try.underlying33 Try.infoNum rfl .i64 .i64 0 (by omega) (by omega) W
  push_cast at hmk
  clear hr hS hn
  go_enter Try.func14, Try.ntmps14
  go_wp2
  go_loopw [4, 13] (fun _ x wr => x = .int .i64 0 ∧ Below w.heap.size w wr ∧ w.heap.size + 1 < wr.heap.size) (fun _ x _ => 0)
  case atStart => exact ⟨rfl, ((Below.refl _ _).alloc (Nat.le_refl _) _).alloc (by simp) _, by simp⟩
  case round =>
    obtain ⟨rfl, hbel, hsz⟩ := hrel
    go_wp2_with (first | (go_at_call 17; refine (HS.out _ _ _ _).mono ?_; rintro e w3 ⟨rfl, rfl⟩))
    go_ret
    exact ⟨⟨_, rfl, IntsV.empty (by omega)⟩, hbel⟩

end Go.Proofs.Ytijnekbhpdcemaa
