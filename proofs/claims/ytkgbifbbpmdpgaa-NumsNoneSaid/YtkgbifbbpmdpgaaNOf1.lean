/- The maker's looks: a token's place, a number's owner, a typed name's, a Left's. -/
import Derived.Test.YtkgbifbbpmdpgaaNOfP
import Derived.Test.YtkgbifbbpmdpgaaProg
set_option linter.unusedVariables false
set_option linter.unusedSimpArgs false
namespace Go.Proofs.Ytkgbifbbpmdpgaa

open Go.RowKit
theorem cell_up {w W : World} {p : Addr} {u : Value} (h : Below w.heap.size w W) (hu : w.cell? p = some u) : W.cell? p = some u := (h.cell (World.block_lt_of_cell? _ _ hu)).trans hu
variable {w : World} {B M : Nat} {F S : Nat → Prop} {m : Mk}
set_option maxRecDepth 100000 in
theorem left_any (h : MkV w B M F S m) (n : ByteArray) : Calls Try.prog 47 #[.pointer (some ⟨M, 0, none⟩), .string n] w fun e w' => e = .returned (.int .i64 (m.left n)) ∧ Below w.heap.size w w' := by
 obtain ⟨tv, pv, gv, yv, lv, h1, h2, h3, h4, h5⟩ := h.read
 obtain ⟨a, len, c, rfl, hl, hlc, hc, hx⟩ := h4.open
 have x7 := h5 7
 simp only [mkCells, List.getElem?_cons_succ, List.getElem?_cons_zero] at x7
 have HR : Hid (m.left n = firstN (lftP m.lefts n) m.lefts.length 0) := Lib.hid rfl
 rw [← hl.out] at HR
 clear h h1 h2 h3 h4 h5
 generalize m.left n = R at HR ⊢
 generalize m.lefts = L at hl hx HR
 go_enter Try.func47, Try.ntmps47
 go_wp2_with fail
 go_loop [5] (fun x => ∃ k : Nat, k ≤ len ∧ x = .int .i64 k ∧ Hid (R = firstN (lftP L n) len k)) (fun x => len - (intOf x).toNat)
 case atStart => exact ⟨0, Nat.zero_le _, rfl, HR⟩
 case round =>
  obtain ⟨k, hk, rfl, HK⟩ := hrel
  by_cases hlt : k < len
  · obtain ⟨b, o, rfl, y0⟩ := hx.out k hlt
    have i1 : (k : Int) < (len : Int) := by omega
    generalize hq : L.getD k ⟨#[]⟩ = s at y0
    cases ht : eqB s n with
    | true =>
      have ht2 : (s.toList == n.toList) = true := ht
      have hp : lftP L n k = true := by unfold lftP; rw [hq]; exact ht
      have he := HK.out
      rw [firstN_hit _ hlt hp] at he
      clear hx HK HR hq ht hp
      subst he
      go_wp2_with fail
      go_ret
      exact ⟨rfl, Below.refl _ _⟩
    | false =>
      have ht2 : (s.toList == n.toList) = false := ht
      have hp : lftP L n k = false := by unfold lftP; rw [hq]; exact ht
      have he := HK.out
      rw [firstN_miss _ hlt hp] at he
      clear hx HK HR hq ht hp
      go_wp2_with fail
      go_round
      case rel => exact ⟨k + 1, by omega, by go_num, Lib.hid he⟩
      case measure => simp [intOf]; omega
  · have he := HK.out
    rw [firstN_out _ (by omega)] at he
    have i1 : ¬ (k : Int) < (len : Int) := by omega
    clear hx HK HR
    subst he
    go_wp2_with fail
    go_ret
    exact ⟨rfl, Below.refl _ _⟩
set_option maxRecDepth 100000 in
theorem typeOf_any (h : MkV w B M F S m) (n : ByteArray) : Calls Try.prog 49 #[.pointer (some ⟨M, 0, none⟩), .string n] w fun e w' => e = .returned (.int .i64 (m.typeOf n)) ∧ Below w.heap.size w w' := by
 obtain ⟨tv, pv, gv, yv, lv, h1, h2, h3, h4, h5⟩ := h.read
 obtain ⟨a, len, c, rfl, hl, hlc, hc, hx⟩ := h3.open
 have x7 := h5 6
 simp only [mkCells, List.getElem?_cons_succ, List.getElem?_cons_zero] at x7
 have HR : Hid (m.typeOf n = firstN (typP m.types n) m.types.length 0) := Lib.hid rfl
 rw [← hl.out] at HR
 clear h h1 h2 h3 h4 h5
 generalize m.typeOf n = R at HR ⊢
 generalize m.types = L at hl hx HR
 go_enter Try.func49, Try.ntmps49
 go_wp2_with fail
 go_loop [5] (fun x => ∃ k : Nat, k ≤ len ∧ x = .int .i64 k ∧ Hid (R = firstN (typP L n) len k)) (fun x => len - (intOf x).toNat)
 case atStart => exact ⟨0, Nat.zero_le _, rfl, HR⟩
 case round =>
  obtain ⟨k, hk, rfl, HK⟩ := hrel
  by_cases hlt : k < len
  · obtain ⟨b, o, rfl, y0, y1⟩ := hx.out k hlt
    have i1 : (k : Int) < (len : Int) := by omega
    generalize hq : (L.getD k noNn).name = s at y0
    cases ht : eqB s n with
    | true =>
      have ht2 : (s.toList == n.toList) = true := ht
      have hp : typP L n k = true := by unfold typP; rw [hq]; exact ht
      have he := HK.out
      rw [firstN_hit _ hlt hp] at he
      clear hx HK HR hq ht hp
      subst he
      go_wp2_with fail
      go_ret
      exact ⟨rfl, Below.refl _ _⟩
    | false =>
      have ht2 : (s.toList == n.toList) = false := ht
      have hp : typP L n k = false := by unfold typP; rw [hq]; exact ht
      have he := HK.out
      rw [firstN_miss _ hlt hp] at he
      clear hx HK HR hq ht hp
      go_wp2_with fail
      go_round
      case rel => exact ⟨k + 1, by omega, by go_num, Lib.hid he⟩
      case measure => simp [intOf]; omega
  · have he := HK.out
    rw [firstN_out _ (by omega)] at he
    have i1 : ¬ (k : Int) < (len : Int) := by omega
    clear hx HK HR
    subst he
    go_wp2_with fail
    go_ret
    exact ⟨rfl, Below.refl _ _⟩
set_option maxRecDepth 100000 in
theorem owner_any (h : MkV w B M F S m) (n : Int) : Calls Try.prog 58 #[.pointer (some ⟨M, 0, none⟩), .int .i64 n] w fun e w' => e = .returned (.int .i64 (m.owner n)) ∧ Below w.heap.size w w' := by
 obtain ⟨tv, pv, gv, yv, lv, h1, h2, h3, h4, h5⟩ := h.read
 obtain ⟨a, len, c, rfl, hl, hlc, hc, hx⟩ := h1.open
 have x7 := h5 0
 simp only [mkCells, List.getElem?_cons_succ, List.getElem?_cons_zero] at x7
 have HR : Hid (m.owner n = firstN (ownP m.toks n) m.toks.length 3) := Lib.hid rfl
 rw [← hl.out] at HR
 clear h h1 h2 h3 h4 h5
 generalize m.owner n = R at HR ⊢
 generalize m.toks = L at hl hx HR
 go_enter Try.func58, Try.ntmps58
 go_wp2_with fail
 go_loop [5] (fun x => ∃ k : Nat, 3 ≤ k ∧ x = .int .i64 k ∧ Hid (R = firstN (ownP L n) len k)) (fun x => len - (intOf x).toNat)
 case atStart => exact ⟨3, Nat.le_refl _, rfl, HR⟩
 case round =>
  obtain ⟨k, hk, rfl, HK⟩ := hrel
  by_cases hlt : k < len
  · obtain ⟨b, o, rfl, y0, y1, y2, y3, y4, y5⟩ := hx.out k hlt
    have i1 : (k : Int) < (len : Int) := by omega
    generalize hq : (L.getD k noTk).num = s at y2
    cases ht : s == n with
    | true =>
      have ht2 : s = n := by simpa using ht
      have hp : ownP L n k = true := by unfold ownP; rw [hq]; exact ht
      have he := HK.out
      rw [firstN_hit _ hlt hp] at he
      clear hx HK HR hq ht hp
      subst he
      go_wp2_with fail
      go_ret
      exact ⟨rfl, Below.refl _ _⟩
    | false =>
      have ht2 : ¬ s = n := by simpa using ht
      have hp : ownP L n k = false := by unfold ownP; rw [hq]; exact ht
      have he := HK.out
      rw [firstN_miss _ hlt hp] at he
      clear hx HK HR hq ht hp
      go_wp2_with fail
      go_round
      case rel => exact ⟨k + 1, by omega, by go_num, Lib.hid he⟩
      case measure => simp [intOf]; omega
  · have he := HK.out
    rw [firstN_out _ (by omega)] at he
    have i1 : ¬ (k : Int) < (len : Int) := by omega
    clear hx HK HR
    subst he
    go_wp2_with fail
    go_ret
    exact ⟨rfl, Below.refl _ _⟩
set_option maxRecDepth 100000 in
theorem tok_any (h : MkV w B M F S m) (x : Sm) : Calls Try.prog 46 #[.pointer (some ⟨M, 0, none⟩), x.agg] w fun e w' => e = .returned (.int .i64 (m.tok x)) ∧ Below w.heap.size w w' := by
 obtain ⟨tv, pv, gv, yv, lv, h1, h2, h3, h4, h5⟩ := h.read
 obtain ⟨a, len, c, rfl, hl, hlc, hc, hx⟩ := h1.open
 have x7 := h5 0
 simp only [mkCells, List.getElem?_cons_succ, List.getElem?_cons_zero] at x7
 have HR : Hid (m.tok x = firstN (tokP m.toks x) m.toks.length 1) := Lib.hid rfl
 rw [← hl.out] at HR
 clear h h1 h2 h3 h4 h5
 generalize m.tok x = R at HR ⊢
 generalize m.toks = L at hl hx HR
 obtain ⟨xn, xl, xm, xp⟩ := x
 unfold Sm.agg
 simp only
 have hb := (Below.refl w.heap.size w).alloc (Nat.le_refl _) (.cells #[.string xn, .bool xl, .int .i64 xm, .int .i64 xp] 68)
 have hX := heap_alloc_new w (.cells #[.string xn, .bool xl, .int .i64 xm, .int .i64 xp] 68)
 have HX := Lib.hid (fun W (hW : Below w.heap.size w W) k (hk : k < len) => by
  obtain ⟨b, o, e, y0, y1, y2, y3, y4, y5⟩ := hx.out k hk
  exact (⟨b, o, e, cell_up hW y0, cell_up hW y1⟩ : ∃ b o, a = some ⟨b, o, none⟩ ∧ W.cell? ⟨b, o + k * 6, none⟩ = some (.string (L.getD k noTk).name) ∧ W.cell? ⟨b, o + k * 6 + 1, none⟩ = some (.bool (L.getD k noTk).lit)))
 have x0 := cell_up hb x7
 have hx2 := HX.out _ hb
 go_enter Try.func46, Try.ntmps46
 go_wp2_with fail
 have b0 := cell_of_row _ _ 0 _ _ _ hX
 have b1 := cell_of_row _ _ 1 _ _ _ hX
 have HC := Lib.hid (fun W (hW : Below (w.alloc (.cells #[.string xn, .bool xl, .int .i64 xm, .int .i64 xp] 68)).heap.size (w.alloc (.cells #[.string xn, .bool xl, .int .i64 xm, .int .i64 xp] 68)) W) => And.intro (cell_up hW x0) (And.intro (cell_up hW b0) (And.intro (cell_up hW b1) (HX.out W (hb.trans (hW.mono hb.size))))))
 clear hx x7 HX hX x0 b0 b1 hx2
 generalize (w.alloc (.cells #[.string xn, .bool xl, .int .i64 xm, .int .i64 xp] 68)) = w1 at *
 go_loopw [5] (fun x W => ∃ k : Nat, 1 ≤ k ∧ x = .int .i64 k ∧ Hid (R = firstN (tokP L ⟨xn, xl, xm, xp⟩) len k) ∧ Below w1.heap.size w1 W) (fun x _ => len - (intOf x).toNat)
 case atStart => exact ⟨1, Nat.le_refl _, rfl, HR, Below.refl _ _⟩
 case round =>
  obtain ⟨k, hk, rfl, HK, hbr⟩ := hrel
  rename World => wr
  obtain ⟨x0, b0, b1, hx2⟩ := HC.out wr hbr
  by_cases hlt : k < len
  · obtain ⟨b, o, rfl, y0, y1⟩ := hx2 k hlt
    have i1 : (k : Int) < (len : Int) := by omega
    have hk1 : (k : Int) ≥ 1 := by omega
    generalize hq : L.getD k noTk = q at y0 y1
    cases hp : tokP L ⟨xn, xl, xm, xp⟩ k with
    | true =>
      have he := HK.out
      rw [firstN_hit _ hlt hp] at he
      unfold tokP at hp
      rw [hq, Bool.and_eq_true, Bool.and_eq_true] at hp
      obtain ⟨t1, t2, t3⟩ := hp
      have t1 : (q.name.toList == xn.toList) = true := t1
      have t2 : (q.lit == xl) = true := t2
      have t3 : ¬ (k : Int) = 2 := by simp at t3; omega
      clear hx2 HK HR hq HC
      subst he
      go_wp2_with fail
      go_quiet (fail)
      go_wp2_with fail
      go_ret
      have hbn := hb.trans (hbr.mono hb.size)
      exact ⟨rfl, hbn.os, hbn.tape, hbn.output, hbn.size, hbn.block⟩
    | false =>
      have he := HK.out
      rw [firstN_miss _ hlt hp] at he
      unfold tokP at hp
      rw [hq] at hp
      clear hx2 HK HR hq HC
      cases ht1 : eqB q.name xn with
      | false =>
        have t1 : (q.name.toList == xn.toList) = false := ht1
        clear hp ht1
        go_wp2_with fail
        go_quiet (fail)
        go_wp2_with fail
        go_roundw
        case rel => exact ⟨k + 1, by omega, by go_num, Lib.hid he, hbr.os, hbr.tape, hbr.output, hbr.size, hbr.block⟩
        case measure => simp [intOf]; omega
      | true =>
        have t1 : (q.name.toList == xn.toList) = true := ht1
        rw [ht1, Bool.true_and] at hp
        clear ht1
        cases ht2 : (q.lit == xl) with
        | false =>
          clear hp
          generalize q.lit = ql at y1 ht2
          cases ql <;> cases xl <;> first | (cases ht2; done) | skip
          all_goals
           clear ht2
           go_wp2_with fail
           go_quiet (fail)
           go_wp2_with fail
           go_roundw
           case rel => exact ⟨k + 1, by omega, by go_num, Lib.hid he, hbr.os, hbr.tape, hbr.output, hbr.size, hbr.block⟩
           case measure => simp [intOf]; omega
        | true =>
          rw [ht2, Bool.true_and] at hp
          have t3 : k = 2 := by simpa using hp
          subst t3
          have z0 : wr.cell? ⟨b, o + 12, none⟩ = some (.string q.name) := y0
          have z1 : wr.cell? ⟨b, o + 13, none⟩ = some (.bool q.lit) := y1
          have z2 : (2 : Int) < (len : Int) := by omega
          clear hp y0 y1 i1
          go_wp2_with fail
          go_quiet (fail)
          go_wp2_with fail
          go_roundw
          case rel => exact ⟨3, by omega, by go_num, Lib.hid he, hbr.os, hbr.tape, hbr.output, hbr.size, hbr.block⟩
          case measure => simp [intOf]; omega
  · have he := HK.out
    rw [firstN_out _ (by omega)] at he
    have i1 : ¬ (k : Int) < (len : Int) := by omega
    clear hx2 HK HR HC
    subst he
    go_wp2_with fail
    go_ret
    exact ⟨rfl, hb.trans (hbr.mono hb.size)⟩
end Go.Proofs.Ytkgbifbbpmdpgaa
