/- Small lemmas on strings, slices and worlds, of no program. -/
import Derived.WalkKit
import Derived.WalkSpells
import Derived.WalkLawsBesides
import Derived.Deep.QuietTactic
import Derived.BigQuiet
import Derived.Lib.Hide
import Derived.Laws.BytesString
namespace Go.Proofs.YtmfjpdlegaimlaaGreatDoor
open Go.RowKit
set_option linter.unusedVariables false

theorem ret_bool {a b : Bool} (h : a = b) : Ending.returned (.bool a) = .returned (.bool b) := by rw [h]
theorem ret_str {a b : ByteArray} (h : a = b) : Ending.returned (.string a) = .returned (.string b) := by rw [h]
theorem ret_int {k : IntKind} {a b : Int} (h : a = b) : Ending.returned (.int k a) = .returned (.int k b) := by rw [h]

/-- bytes of numbers -/
def bytesOf (ns : List Int) : ByteArray := ⟨(ns.map (fun n => UInt8.ofNat n.toNat)).toArray⟩

theorem foldl_push (ns : List Int) : ∀ (s : ByteArray), ns.foldl (fun r n => r.push (UInt8.ofNat n.toNat)) s = ⟨s.data ++ (ns.map (fun n => UInt8.ofNat n.toNat)).toArray⟩ := by
  induction ns with
  | nil => intro s; simp
  | cons n ns ih =>
    intro s
    rw [List.foldl_cons, ih]
    congr 1
    show (s.data.push _) ++ _ = _
    simp

theorem run_conv_cells {P : Program} (w : World) (src dst e : TypeId) (a : Addr) (ns : List Int) (c : Nat)
    (hs : P.underlying src = some (.slice e)) (he : P.underlying e = some (.int .u8)) (hd : P.underlying dst = some .string)
    (h : ∀ j v, (ns.map (Value.int .u8))[j]? = some v → w.cell? (a.add j) = some v) :
    (convert src dst (.slice (some a) ns.length c)).run P w = .ok (.string (bytesOf ns)) w := by
  rw [run_convert_bytes_string w src dst e _ _ _ hs he hd]
  have hl := run_loadCells_list (P := P) w a (ns.map (Value.int .u8)) h
  rw [List.length_map] at hl
  rw [run_bytesToString w a ns.length c ns hl, foldl_push]
  unfold bytesOf
  simp [ByteArray.empty, ByteArray.emptyWithCapacity]
  rfl

theorem run_conv_new {P : Program} (w : World) (src dst e : TypeId) (ns : List Int) (c : Nat)
    (hs : P.underlying src = some (.slice e)) (he : P.underlying e = some (.int .u8)) (hd : P.underlying dst = some .string) :
    (convert src dst (.slice (some ⟨w.heap.size, 0, none⟩) ns.length c)).run P (w.alloc (.cells (ns.map (Value.int .u8)).toArray e)) = .ok (.string (bytesOf ns)) (w.alloc (.cells (ns.map (Value.int .u8)).toArray e)) := by
  refine run_conv_cells _ src dst e _ ns c hs he hd ?_
  intro j v hv
  have hj : j < ns.length := by
    have := (List.getElem?_eq_some_iff.1 hv).1; simpa using this
  have e1 : (⟨w.heap.size, 0, none⟩ : Addr).add j = ⟨w.heap.size, j, none⟩ := by simp [Addr.add]; omega
  rw [e1, World.cell?_alloc_at _ _ _ _ (by first | (simp; done) | (simp; omega))]
  simpa using hv

/-- a cell of the block that was laid last -/
theorem cell_top (W : World) (cs : Array Value) (t : TypeId) (B k : Nat) (hB : B = W.heap.size) : (W.alloc (.cells cs t)).cell? ⟨B, k, none⟩ = cs[k]? := by
  subst hB; exact World.cell?_alloc_at _ _ _ _ rfl

theorem ba_append (a b : Array UInt8) : (⟨a⟩ ++ ⟨b⟩ : ByteArray) = ⟨a ++ b⟩ := by
  apply ByteArray.ext
  exact ByteArray.data_append

theorem bytesOf_append (a b : List Int) : bytesOf a ++ bytesOf b = bytesOf (a ++ b) := by
  unfold bytesOf
  rw [ba_append]; simp

end Go.Proofs.YtmfjpdlegaimlaaGreatDoor
