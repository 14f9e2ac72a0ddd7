/- The walks of the laws on bytes in quotes. -/
import Derived.Test.YtoifpljfgpnmgaaCharTake
import Derived.Outline
namespace Go.Proofs.Ytoifpljfgpnmgaa
open Go.RowKit
set_option linter.unusedVariables false

theorem tells_eq {s : ByteArray} {i : Int} {e : Ending} (h : TakeTells s i e) {c x : Int} {ok : Bool} (h2 : takeS s i = (c, x, ok)) : e = .returned (.tuple #[.int .u8 c, .int .i64 x, .bool ok]) := by
  unfold TakeTells at h; rw [h, h2]

theorem charWakes_any (w : World) : Calls Try.prog 6 #[] w fun e w' => e = .returned (.bool true) ∧ Below w.heap.size w w' := by
  have t1 : ((bytesOf (quoteL 10)).toList == [39, 92, 110, 39]) = true := by rw [Lib.toList_data]; decide
  have t2 : (bytesOf (quoteL 0)).toList.isEmpty = true := by rw [Lib.toList_data]; decide
  have k1 : takeS ⟨#[120, 39, 43, 39]⟩ 1 = (43, 4, true) := by decide
  have K1 := Lib.hid k1; clear k1
  go_enter Try.func6, Try.ntmps6
  go_wp2_with fail
  refine (take_any _ _ _ (by decide)).mono ?_
  rintro e w' ⟨he, rfl⟩
  obtain rfl := tells_eq he K1.out
  clear he
  go_wp2_with fail
  refine (text_any _ _ (by decide) (by decide)).mono ?_
  rintro e w1 ⟨rfl, hb1⟩
  go_wp2_with fail
  refine (text_any _ _ (by decide) (by decide)).mono ?_
  rintro e w2 ⟨rfl, hb2⟩
  go_wp2_with fail
  go_ret
  exact ⟨rfl, hb1.trans (hb2.mono hb1.size)⟩

def textS (s : ByteArray) (m : Nat) : ByteArray := if m < s.size then s.extract 0 m else s

theorem textCut_any (s : ByteArray) (m : Nat) (w : World) (h1 : s.size ≤ 9223372036854775807) (hm : m ≤ 4000) :
    Calls Try.prog 7 #[.string s, .int .i64 m] w fun e w' => (∃ t : ByteArray, e = .returned (.string t) ∧ t.size ≤ m ∧ Hid (t = textS s m)) ∧ w = w' := by
  by_cases h : m < s.size
  · go_enter Try.func7, Try.ntmps7
    go_wp2
    go_ret
    exact ⟨⟨_, rfl, by rw [ByteArray.size_extract]; omega, by unfold textS; rw [if_pos h]; exact Lib.hid rfl⟩, rfl⟩
  · go_enter Try.func7, Try.ntmps7
    go_wp2
    go_ret
    exact ⟨⟨s, rfl, by omega, by unfold textS; rw [if_neg h]; exact Lib.hid rfl⟩, rfl⟩

theorem charWakes_true {e : Ending} (h : e = .returned (.bool true)) : e = .returned (.bool true) := h

theorem takes_both (t : ByteArray) (i : Int) : ∃ c x ok, Hid (takeS t i = (c, x, ok)) := ⟨_, _, _, Lib.hid rfl⟩

theorem charTakes_walk (s : ByteArray) (i : Int) (c : Int) (w0 : s.size ≤ maxLen) (w1 : (Lit.int .i64 i).wf = true) (w2 : (Lit.int .u8 c).wf = true) (w : World) :
    Calls Try.prog 3 #[.string s, .int .i64 i, .int .u8 c] w fun e w' => e = .returned (.bool true) ∧ Below w.heap.size w w' := by
  unfold maxLen at w0
  have hc : 0 ≤ c ∧ c ≤ 255 := by simpa [Lit.wf, IntKind.min, IntKind.max, IntKind.signed, IntKind.bits] using w2
  go_enter Try.func3, Try.ntmps3
  go_wp2_with fail
  refine (charWakes_any _).mono ?_
  rintro e w1 ⟨rfl, hb1⟩
  go_wp2_with fail
  refine (textCut_any _ 60 _ (by omega) (by omega)).mono ?_
  rintro e w' ⟨⟨t, rfl, ht, _⟩, rfl⟩
  go_wp2_with fail
  go_loopw [7] (fun v wr => ∃ k : Int, -1 ≤ k ∧ k ≤ t.size + 2 ∧ v = .int .i64 k ∧ Below w.heap.size w wr) (fun v _ => (t.size + 2 - intOf v).toNat)
  case atStart => exact ⟨-1, by omega, by omega, rfl, hb1⟩
  case round =>
    obtain ⟨k, hk1, hk2, rfl, hb⟩ := hrel
    by_cases hlt : k ≤ t.size + 1
    · obtain ⟨c1, e1, ok1, hk⟩ := takes_both t k
      go_wp2_with (fail)
      refine (take_any _ _ _ (by omega)).mono ?_
      rintro e w2 ⟨he, rfl⟩
      obtain rfl := tells_eq he hk.out
      clear he
      go_wp2_with (fail)
      refine (rtake_any _ _ _ (by omega)).mono ?_
      rintro e w2 ⟨he, hb2⟩
      obtain rfl := tells_eq he hk.out
      clear he
      go_wp2_with (fail)
      go_roundw
      case rel => exact ⟨k + 1, by omega, by omega, by go_num, hb.trans (hb2.mono hb.size)⟩
      case measure => simp [intOf]; omega
    · obtain ⟨c1, e1, ok1, hk⟩ := takes_both t i
      go_wp2_with (fail)
      refine (take_any _ _ _ (by omega)).mono ?_
      rintro e w2 ⟨he, rfl⟩
      obtain rfl := tells_eq he hk.out
      clear he
      go_wp2_with (fail)
      refine (rtake_any _ _ _ (by omega)).mono ?_
      rintro e w2 ⟨he, hb2⟩
      obtain rfl := tells_eq he hk.out
      clear he
      go_wp2_with (fail)
      refine (text_any _ _ hc.1 hc.2).mono ?_
      rintro e w3 ⟨rfl, hb3⟩
      go_wp2_with (fail)
      refine (quote_any _ _ hc.1 hc.2).mono ?_
      rintro e w4 ⟨rfl, hb4⟩
      go_wp2_with (fail)
      go_ret
      exact ⟨rfl, (hb.trans (hb2.mono hb.size)).trans ((hb3.trans (hb4.mono hb3.size)).mono (Nat.le_trans hb.size hb2.size))⟩
end Go.Proofs.Ytoifpljfgpnmgaa
