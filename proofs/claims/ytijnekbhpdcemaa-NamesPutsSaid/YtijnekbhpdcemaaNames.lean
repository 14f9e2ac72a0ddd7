/- The names' object: what it holds, and what its methods tell. -/
import Derived.Test.YtijnekbhpdcemaaStrs
import Derived.Maps.OwnSet
import Derived.Maps.Views
import Derived.StringKeys
namespace Go.Proofs.Ytijnekbhpdcemaa
open Go.RowKit Go.Maps
set_option linter.unusedVariables false

theorem keyed_str : Keyed Try.prog 9 := string_keyed Try.underlying9
theorem key_str {s : ByteArray} (hs : s.size ≤ maxLen) : keyOf Try.prog 9 (.string s) = some (.string s.data.toList) := WideMaps.keyOf_string_mk Try.underlying9 hs
theorem key_inj {s t : ByteArray} (h : Lit.string s.data.toList = Lit.string t.data.toList) : s = t := by
  exact ByteArray.ext (Array.toList_inj.1 (Lit.string.inj h))

theorem Try.infoNum : (Try.prog.info? 3).map (fun i => (i.zero, i.size, i.bytes)) = some (some (.int .i64 0), 1, 8) := by kernel_rfl
theorem zero_int (w : World) : (zeroValue 3).run Try.prog w = .ok (.int .i64 0) w := by
  obtain ⟨i0, hi, hz0, _, _⟩ := info_parts Try.infoNum
  simp [zeroValue, typeInfo, hi, hz0, Result.andThen]

/-- the map of the names' numbers -/
def NamesD (L : List ByteArray) (D : DataW Unit) : Prop :=
  IsMap D ∧ ∀ s : ByteArray, has D (.string s.data.toList) = decide (place L s < L.length) ∧ (place L s < L.length → ∀ z, D.atKey (.string s.data.toList) z = .lit (.int .i64 (place L s : Nat)))

def MapV (w : World) (base : Nat) (mv : Value) (L : List ByteArray) : Prop :=
  (mv = .map none ∧ L = []) ∨ ∃ mb D, mv = .map (some mb) ∧ base ≤ mb ∧ w.ownsMap Try.prog 9 (plainElem Try.prog 3) mb L.length D ∧ NamesD L D

/-- the object at b has the names of L, as they came -/
def NamesV (w : World) (base b : Nat) (L : List ByteArray) : Prop :=
  True ∧ L.length ≤ 1000000 ∧ ∃ sv mv, w.heap[b]? = some (.cells #[sv, mv] 40 (0, 0)) ∧ w.ownsRow base 9 1 sv L.length (L.map .string) ∧ MapV w base mv L

/-- below block base, but for block b, the world is as it was -/
structure BelowX (base b : Nat) (w w' : World) : Prop where
  os : w'.os = w.os
  tape : w'.tape = w.tape
  output : w'.output = w.output
  size : w.heap.size ≤ w'.heap.size
  block : ∀ k, k < base → k ≠ b → w'.heap[k]? = w.heap[k]?

theorem BelowX.of {base b : Nat} {w w' : World} (h : Below base w w') : BelowX base b w w' := ⟨h.os, h.tape, h.output, h.size, fun k hk _ => h.block k hk⟩
theorem BelowX.below {base b : Nat} {w w' : World} (h : BelowX base b w w') (hb : base ≤ b) : Below base w w' := ⟨h.os, h.tape, h.output, h.size, fun k hk => h.block k hk (by omega)⟩
theorem BelowX.below' {base b : Nat} {w w' : World} (h : BelowX base b w w') (hb : b ≤ base) : Below b w w' := ⟨h.os, h.tape, h.output, h.size, fun k hk => h.block k (by omega) (by omega)⟩
theorem BelowX.trans {base b : Nat} {w1 w2 w3 : World} (h : BelowX base b w1 w2) (k : BelowX base b w2 w3) : BelowX base b w1 w3 :=
  ⟨k.os.trans h.os, k.tape.trans h.tape, k.output.trans h.output, Nat.le_trans h.size k.size, fun i hi hne => (k.block i hi hne).trans (h.block i hi hne)⟩
theorem BelowX.setCell {base b o : Nat} {w w1 : World} (h : BelowX base b w w1) (u : Value) : BelowX base b w (w1.setCell ⟨b, o, none⟩ u) :=
  h.trans ⟨rfl, rfl, rfl, by simp [World.setCell], fun k _ hk => Below.heap_setCell _ _ _ _ hk⟩
theorem BelowX.cell {base b : Nat} {w w' : World} (h : BelowX base b w w') {p : Addr} (hp : p.block < base) (hb : p.block ≠ b) : w'.cell? p = w.cell? p := World.cell?_of_block (w := w) (h.block p.block hp hb)

theorem cells_two {w : World} {b : Nat} {x y : Value} {T : TypeId} (h : w.heap[b]? = some (.cells #[x, y] T (0, 0))) : w.cell? ⟨b, 0, none⟩ = some x ∧ w.cell? ⟨b, 1, none⟩ = some y := by
  constructor
  · rw [cell_of_row w b 0 _ T (0, 0) h]; rfl
  · rw [cell_of_row w b 1 _ T (0, 0) h]; rfl

theorem row_slice {w : World} {base : Nat} {e : TypeId} {v : Value} {n : Nat} {xs : List Value} (h : w.ownsRow base e 1 v n xs) : ∃ a c, v = .slice a n c := by
  obtain ⟨_, h2⟩ := h
  rcases h2 with ⟨rfl, rfl⟩ | ⟨g, cap, cur, rfl, _⟩
  · exact ⟨_, _, rfl⟩
  · exact ⟨_, _, rfl⟩

theorem names_len (b : Nat) (L : List ByteArray) (base : Nat) (w : World) (h : NamesV w base b L) :
    Calls Try.prog 12 #[.pointer (some ⟨b, 0, none⟩)] w fun e w' => e = .returned (.int .i64 (L.length : Nat)) ∧ w = w' := by
  obtain ⟨_, hn, sv, mv, hb, hr, _⟩ := h
  obtain ⟨a, c, rfl⟩ := row_slice hr
  obtain ⟨c0, c1⟩ := cells_two hb
  generalize L.length = n at hr hn c0
  clear hr hb
  go_enter Try.func12, Try.ntmps12
  go_wp2
  go_ret
  exact ⟨rfl, rfl⟩

theorem names_find (b : Nat) (L : List ByteArray) (s : ByteArray) (base : Nat) (w : World) (hs : s.size ≤ maxLen) (h : NamesV w base b L) :
    Calls Try.prog 13 #[.pointer (some ⟨b, 0, none⟩), .string s] w fun e w' => e = .returned (.int .i64 (idx L s)) ∧ w = w' := by
  obtain ⟨_, hn, sv, mv, hb, hr, hm⟩ := h
  obtain ⟨c0, c1⟩ := cells_two hb
  rcases hm with ⟨rfl, rfl⟩ | ⟨mb, D, rfl, hmb, hown, hM, hD⟩
  · clear hr hb
    have hl := fun (W : World) => Maps.look_nil (w := W) (z := .int .i64 0) true keyed_str Try.underlying38 (zero_int W) (key_str hs)
    simp only [if_true] at hl
    go_enter Try.func13, Try.ntmps13
    go_wp2
    go_ret
    exact ⟨ret_int (by unfold idx place; rfl), rfl⟩
  · obtain ⟨h1, h2⟩ := hD s
    have H2 := Lib.hid h2
    clear h2 hr hb hD hM
    by_cases hp : place L s < L.length
    · have hat := Lib.hid (H2.out hp)
      have hidx : Hid (idx L s = (place L s : Nat)) := Lib.hid (by unfold idx; rw [if_pos hp])
      rw [decide_eq_true hp] at h1
      have H1 := Lib.hid h1
      clear h1 H2 hp
      go_enter Try.func13, Try.ntmps13
      go_wp2_with (first | (at_lookup; refine wpList_lookup_own_ok_int _ rfl _ _ 38 rfl 9 3 .i64 keyed_str Try.underlying38 Try.underlying3 (zero_int _) mb L.length D rfl hown _ _ rfl (key_str hs) ?_; intro c hc hwc; rw [H1.out]))
      go_ret
      refine ⟨ret_int ?_, rfl⟩
      rw [hat.out] at hc
      cases hc
      exact hidx.out.symm
    · have hidx : Hid (idx L s = -1) := Lib.hid (by unfold idx; rw [if_neg hp])
      rw [decide_eq_false hp] at h1
      have H1 := Lib.hid h1
      clear h1 H2 hp
      go_enter Try.func13, Try.ntmps13
      go_wp2_with (first | (at_lookup; refine wpList_lookup_own_ok_int _ rfl _ _ 38 rfl 9 3 .i64 keyed_str Try.underlying38 Try.underlying3 (zero_int _) mb L.length D rfl hown _ _ rfl (key_str hs) ?_; intro c hc hwc; rw [H1.out]))
      go_ret
      exact ⟨ret_int hidx.out.symm, rfl⟩

end Go.Proofs.Ytijnekbhpdcemaa
