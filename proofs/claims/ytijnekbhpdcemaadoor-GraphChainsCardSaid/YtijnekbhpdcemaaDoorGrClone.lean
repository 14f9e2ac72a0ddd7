/- slices.Clone of a slice of numbers that is not empty. -/
import Derived.Test.YtijnekbhpdcemaaDoorGrWalker
import Derived.Lib.SliceRun
namespace Go.Proofs.YtijnekbhpdcemaaDoor
open Go.RowKit
set_option linter.unusedVariables false
set_option linter.unusedSimpArgs false

theorem owns_slice {w : World} {base : Nat} {e : TypeId} {size n : Nat} {v : Value} {xs : List Value} (h : w.ownsRow base e size v n xs) : ∃ a c, v = .slice a n c := by
  obtain ⟨h1, h2⟩ := h
  rcases h2 with ⟨rfl, rfl⟩ | ⟨g, cap, cur, rfl, r⟩
  · exact ⟨_, _, rfl⟩
  · exact ⟨_, _, rfl⟩

def CloneP (l : List Int) (w : World) (e : Ending) (w' : World) : Prop := (∃ v', e = .returned v' ∧ w'.ownsRow w.heap.size 3 1 v' l.length (l.map (.int .i64))) ∧ Below w.heap.size w w'

set_option maxRecDepth 100000 in
theorem clone_any (v : Value) (l : List Int) (w : World) (h : IntsV w v l) (h0 : 0 < l.length) (hl : l.length ≤ 1000000) :
    Calls Tryd.prog 81 #[v] w (CloneP l w) := by
  obtain ⟨i0, hi, hz0, hz1, hz2⟩ := info_parts Tryd.infoInt'
  have hs := SrcV.of_ints h
  obtain ⟨a, n, c, rfl, hn, hnc, hc, hx⟩ := h.open
  obtain ⟨b, off, rfl, _⟩ := hx.out 0 (by rw [hn.out]; exact h0)
  have hown : (w.alloc (.cells #[] 3)).ownsRow w.heap.size 3 1 (.slice (some ⟨w.heap.size, 0, none⟩) 0 0) 0 [] := World.ownsRow_lit w #[] 0 (Nat.le_refl _) (Nat.zero_le _) rfl
  have hnews : ∀ j u, (l.map (Value.int .i64))[j]? = some u → (w.alloc (.cells #[] 3)).cell? ((⟨b, off, none⟩ : Addr).add j) = some u := fun j u hu => by
    rcases hs with ⟨h1, _⟩ | ⟨ad, c', h1, h2⟩
    · cases h1
    · cases h1
      have := h2 j u hu
      rw [((Below.refl w.heap.size w).alloc (Nat.le_refl _) _).cell (World.block_lt_of_cell? _ _ this)]; exact this
  have HN := Lib.hid hnews
  have hn' := hn.out
  clear hnews hx h hs hn
  have hq : ∀ (W : World) (n' : Nat), (binOp .eql 22 (.slice (some ⟨b, off, none⟩) n' c) (.slice none 0 0)).run Tryd.prog W = .ok (.bool false) W := fun W n' => Lib.run_eql_slice_nil W 22 3 _ n' c 0 0 Tryd.underlying22
  go_enter Tryd.func81, Tryd.ntmps81
  go_wp2_with (first
    | (at_builtin; refine wpList_append_own_at _ rfl _ _ 22 rfl w.heap.size 3 i0 (.int .i64 0) 1 8 Tryd.underlying22 hi hz0 hz1 hz2 rfl (by decide) _ _ _ rfl hown ⟨b, off, none⟩ n c (l.map (.int .i64)) rfl ?c1 HN.out ?c2 ?c3 ?c4 ?c5 ?_))
  case c1 => simp; omega
  case c2 => exact ints_one _
  case c3 => unfold maxLen; omega
  case c4 => omega
  case c5 => simp
  intro v' w4 hown' hgrow _ hloc
  have hb : Below w.heap.size w w4 := ((Below.refl _ _).alloc (Nat.le_refl _) _).grown hgrow (by simp) (fun k hk => by cases hk; exact Nat.le_refl _)
  obtain ⟨a', c', rfl⟩ := owns_slice hown'
  go_wp2_with (fail)
  go_ret
  refine ⟨⟨_, rfl, ?_⟩, hb⟩
  subst hn'
  simpa using hown'

end Go.Proofs.YtijnekbhpdcemaaDoor
