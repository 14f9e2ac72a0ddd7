/- Of any line the list that it is: the law DecodeLines walked. -/
import Derived.Test.YtmfjpdlegaimlaaGreatDoorDec7
import Derived.Test.YtmfjpdlegaimlaaGreatDoorDecW
import Derived.Test.YtmfjpdlegaimlaaGreatDoorEqInts
import Derived.Test.YtmfjpdlegaimlaaGreatDoorTextC
import Derived.Test.YtmfjpdlegaimlaaGreatDoorWithin
import Derived.Outline
import Derived.Deep.DeepCutAuto
import Derived.Deep.Cut
namespace Go.Proofs.YtmfjpdlegaimlaaGreatDoor
open Go.RowKit
set_option linter.unusedVariables false
set_option linter.unusedSimpArgs false

set_option maxRecDepth 100000 in
theorem line_any (s : ByteArray) (w : World) (hs : s.size ≤ 100000) (hE : MaxAt w) :
    Calls Tryz.prog 8 #[.string s] w fun e w' => e = .returned (.bool true) ∧ Below w.heap.size w w' := by
  have HA := Lib.hid (declL_any s w hs hE)
  have HB := Lib.hid (fun W => refL_any s W hs)
  rw [refL_eq] at HB
  generalize declL s = R at HA HB
  generalize nmOf R = nm at HA HB
  generalize lsOf R = ls at HA HB
  have hq : (ls == ls) = true := by simp
  generalize R.isSome = b at HA HB
  clear hE hs
  cases b
  all_goals
    go_enter Tryz.func8, Tryz.ntmps8
    go_wp2_with (first
      | (go_at_call 10; refine HA.out.mono ?_; rintro e w1 ⟨v1, rfl, hi1, hb1⟩; have hI1 := Lib.hid hi1; clear hi1)
      | (go_at_call 17; refine (HB.out _).mono ?_; rintro e w2 ⟨v2, rfl, hi2, hb2⟩; have hJ1 := Lib.hid (hI1.out.below hb2); have hI2 := Lib.hid hi2; clear hi2)
      | (go_at_call 12; refine (eqInts_any _ _ _ _ _ hJ1.out hI2.out).mono ?_; rintro e w3 ⟨rfl, hb3⟩))
    go_ret
    have hb12 := hb1.trans (hb2.mono hb1.size)
    exact ⟨ret_bool (by simp), hb12.trans (hb3.mono hb12.size)⟩

theorem wf_in {l : List Int} (h : InI l) (k : Nat) : (Lit.int .i64 (l.getD k 0)).wf = true := by
  have h2 : -9223372036854775808 ≤ l.getD k 0 ∧ l.getD k 0 ≤ 9223372036854775807 := by
    rw [List.getD_eq_getElem?_getD]
    by_cases hk : k < l.length
    · rw [List.getElem?_eq_getElem hk]; exact h _ (List.getElem_mem hk)
    · rw [List.getElem?_eq_none (by omega)]; decide
  simpa [Lit.wf, IntKind.min, IntKind.max, IntKind.signed, IntKind.bits] using h2

set_option maxRecDepth 100000 in
set_option maxHeartbeats 8000000 in
theorem decodeLines_any (s : ByteArray) (v : Value) (l : List Int) (name : ByteArray) {w : World} (hs : s.size ≤ maxLen) (hvi : IntsV w v l ∧ InI l) (hn : name.size ≤ maxLen) (hE : Env w) :
    Calls Tryz.prog 3 #[.string s, v, .string name] w fun e w' => e = .returned (.bool true) ∧ Below w.heap.size w w' := by
  obtain ⟨hv, hi⟩ := hvi
  have HW := Lib.hid (wakes29_any w hE)
  have HTs : Hid (∀ W, Calls Tryz.prog 7 #[.string s, .int .i64 100] W fun e w' => e = .returned (.string (cutT s 100)) ∧ W = w') := Lib.hid (fun W => text_any s 100 W hs (by omega))
  have HTn : Hid (∀ W, Calls Tryz.prog 7 #[.string name, .int .i64 20] W fun e w' => e = .returned (.string (cutT name 20)) ∧ W = w') := Lib.hid (fun W => text_any name 20 W hn (by omega))
  have zs := cutT_size s 100
  have zn := cutT_size name 20
  generalize cutT s 100 = s1 at HTs zs
  generalize cutT name 20 = n1 at HTn zn
  have HM : Hid (∀ W, Below w.heap.size w W → MaxAt W) := Lib.hid (fun W hb => hE.max.below hb)
  have HL : Hid (∀ (t : ByteArray) W, t.size ≤ 100000 → MaxAt W → Calls Tryz.prog 8 #[.string t] W fun e w' => e = .returned (.bool true) ∧ Below W.heap.size W w') := Lib.hid (fun t W h1 h2 => line_any t W h1 h2)
  have HI := Lib.hid hv
  have HF := Lib.hid (fun k => wf_in hi k)
  have HN : Hid (∀ (x : Int), (Lit.int .i64 x).wf = true → ∀ W, ∃ q : Nat, q < 11 ∧ Calls Tryz.prog 6 #[.int .i64 x, .int .i64 11] W fun e w' => e = .returned (.int .i64 (q : Int)) ∧ W = w') := Lib.hid (fun x hx W => by
    obtain ⟨q, hq⟩ : ∃ q : Nat, (q : Int) = x % ((11 : Nat) : Int) := ⟨(x % 11).toNat, by omega⟩
    refine ⟨q, by omega, ?_⟩
    rw [hq]
    exact within_any x 11 W hx (by omega) (by omega))
  clear hE hi hs hn
  go_enter Tryz.func3, Tryz.ntmps3
  go_wp2_with (first
    | (go_at_call 5; refine HW.out.mono ?_; rintro e w1 ⟨rfl, hb1⟩; have hI1 := Lib.hid (HI.out.below hb1)))
  have hs1 := hb1.size
  have hX : ∀ j, j < 11 → ∃ y : ByteArray, y.size ≤ 9 ∧ (w1.alloc (.cells #[.string ⟨#[49]⟩, .string ⟨#[45]⟩, .string ⟨#[44, 32]⟩, .string ⟨#[44]⟩, .string ⟨#[32]⟩, .string ⟨#[48]⟩, .string ⟨#[50, 51]⟩, .string ⟨#[57, 57, 57, 57, 57, 57, 57, 57, 57]⟩, .string ⟨#[125]⟩, .string ⟨#[45, 48]⟩, .string ⟨#[120]⟩] 9)).cell? ⟨w1.heap.size, j, none⟩ = some (.string y) := by
    intro j hj
    match j, hj with
    | 0, _ => exact ⟨_, by decide, cell_top w1 _ _ _ _ rfl⟩
    | 1, _ => exact ⟨_, by decide, cell_top w1 _ _ _ _ rfl⟩
    | 2, _ => exact ⟨_, by decide, cell_top w1 _ _ _ _ rfl⟩
    | 3, _ => exact ⟨_, by decide, cell_top w1 _ _ _ _ rfl⟩
    | 4, _ => exact ⟨_, by decide, cell_top w1 _ _ _ _ rfl⟩
    | 5, _ => exact ⟨_, by decide, cell_top w1 _ _ _ _ rfl⟩
    | 6, _ => exact ⟨_, by decide, cell_top w1 _ _ _ _ rfl⟩
    | 7, _ => exact ⟨_, by decide, cell_top w1 _ _ _ _ rfl⟩
    | 8, _ => exact ⟨_, by decide, cell_top w1 _ _ _ _ rfl⟩
    | 9, _ => exact ⟨_, by decide, cell_top w1 _ _ _ _ rfl⟩
    | 10, _ => exact ⟨_, by decide, cell_top w1 _ _ _ _ rfl⟩
  have hb2 := hb1.alloc hs1 (.cells #[.string ⟨#[49]⟩, .string ⟨#[45]⟩, .string ⟨#[44, 32]⟩, .string ⟨#[44]⟩, .string ⟨#[32]⟩, .string ⟨#[48]⟩, .string ⟨#[50, 51]⟩, .string ⟨#[57, 57, 57, 57, 57, 57, 57, 57, 57]⟩, .string ⟨#[125]⟩, .string ⟨#[45, 48]⟩, .string ⟨#[120]⟩] 9)
  have hI2 := HI.out.below hb2
  generalize w1.alloc (.cells #[.string ⟨#[49]⟩, .string ⟨#[45]⟩, .string ⟨#[44, 32]⟩, .string ⟨#[44]⟩, .string ⟨#[32]⟩, .string ⟨#[48]⟩, .string ⟨#[50, 51]⟩, .string ⟨#[57, 57, 57, 57, 57, 57, 57, 57, 57]⟩, .string ⟨#[125]⟩, .string ⟨#[45, 48]⟩, .string ⟨#[120]⟩] 9) = w2 at *
  generalize w1.heap.size = B at *
  clear hI1 HI hv hb1 HW hs1
  obtain ⟨a, n, c, rfl, hnl, hnc, hc, hx⟩ := hI2.open
  have HX := Lib.hid hX
  clear hX hI2
  go_loop [8, 9] (fun x y => ∃ (k : Nat) (t : ByteArray), k ≤ n ∧ k ≤ 20 ∧ t.size ≤ 9 * k ∧ x = .string t ∧ y = .int .i64 k) (fun x y => n - (intOf y).toNat)
  case atStart => exact ⟨0, ⟨#[]⟩, Nat.zero_le _, Nat.zero_le _, Nat.zero_le _, rfl, rfl⟩
  case round =>
    obtain ⟨k, t, hk, hk2, ht, rfl, rfl⟩ := hrel
    by_cases hlt : k < n ∧ k < 20
    · obtain ⟨hlt, hlt2⟩ := hlt
      obtain ⟨b, off, ha, hcell⟩ := hx.out k hlt
      obtain ⟨q, hq, hcl⟩ := HN.out _ (HF.out k) w2
      have HCL := Lib.hid hcl
      obtain ⟨y, hy, hyc⟩ := HX.out q hq
      subst ha
      generalize l.getD k 0 = x at hcell HCL
      have hsum : t.size + y.size ≤ 1000 := by omega
      have hsz : (t ++ y).size = t.size + y.size := ByteArray.size_append
      clear hcl HL HN HM HTs HTn hx HX
      go_wp2_with (first | (go_at_call 6; refine (HCL.out).mono ?_; rintro e w' ⟨rfl, rfl⟩))
      go_round
      case rel => exact ⟨k + 1, t ++ y, by omega, by omega, by omega, rfl, by go_num⟩
      case measure => simp [intOf]; omega
    · have ht2 : t.size ≤ 180 := by omega
      clear hx HX HN HF ht
      have q1 : s1.size ≤ 100000 := by omega
      have q2 : ((⟨#[118, 97, 114, 32]⟩ : ByteArray) ++ s1).size ≤ 100000 := by rw [ByteArray.size_append]; show 4 + _ ≤ _; omega
      have q3 : ((⟨#[118, 97, 114, 32, 97, 32, 61, 32, 91, 93, 105, 110, 116, 123]⟩ : ByteArray) ++ t ++ ⟨#[125]⟩).size ≤ 100000 := by rw [ByteArray.size_append, ByteArray.size_append]; show 14 + _ + 1 ≤ _; omega
      have q4 : ((⟨#[118, 97, 114, 32]⟩ : ByteArray) ++ n1 ++ ⟨#[32, 61, 32, 91, 93, 105, 110, 116, 123, 49, 125]⟩).size ≤ 100000 := by rw [ByteArray.size_append, ByteArray.size_append]; show 4 + _ + 11 ≤ _; omega
      have q5 : ((⟨#[118, 97, 114, 32, 97, 32, 61, 32, 91, 93, 105, 110, 116, 123]⟩ : ByteArray) ++ s1 ++ ⟨#[125]⟩).size ≤ 100000 := by rw [ByteArray.size_append, ByteArray.size_append]; show 14 + _ + 1 ≤ _; omega
      have q6 : ((⟨#[118, 97, 114, 32, 97, 32, 61, 32, 91, 93, 105, 110, 116, 123, 49, 44, 32]⟩ : ByteArray) ++ t).size ≤ 100000 := by rw [ByteArray.size_append]; show 17 + _ ≤ _; omega
      have L1 := Lib.hid (fun W h => HL.out _ W q1 h)
      have L2 := Lib.hid (fun W h => HL.out _ W q2 h)
      have L3 := Lib.hid (fun W h => HL.out _ W q3 h)
      have L4 := Lib.hid (fun W h => HL.out _ W q4 h)
      have L5 := Lib.hid (fun W h => HL.out _ W q5 h)
      have L6 := Lib.hid (fun W h => HL.out _ W q6 h)
      clear q1 q2 q3 q4 q5 q6 HL
      have hb := hb2
      go_wp2_with (first
        | (go_at_call 7; (with_reducible refine (HTs.out _).mono ?_); rintro e w8 ⟨rfl, rfl⟩)
        | (go_at_call 7; (with_reducible refine (HTn.out _).mono ?_); rintro e w8 ⟨rfl, rfl⟩)
        | (go_at_call 8; (with_reducible refine (L1.out _ (HM.out _ hb)).mono ?_); rintro e w9 ⟨rfl, hb9⟩; have hb := hb.trans (hb9.mono hb.size))
        | (go_at_call 8; (with_reducible refine (L2.out _ (HM.out _ hb)).mono ?_); rintro e w9 ⟨rfl, hb9⟩; have hb := hb.trans (hb9.mono hb.size))
        | (go_at_call 8; (with_reducible refine (L3.out _ (HM.out _ hb)).mono ?_); rintro e w9 ⟨rfl, hb9⟩; have hb := hb.trans (hb9.mono hb.size))
        | (go_at_call 8; (with_reducible refine (L4.out _ (HM.out _ hb)).mono ?_); rintro e w9 ⟨rfl, hb9⟩; have hb := hb.trans (hb9.mono hb.size))
        | (go_at_call 8; (with_reducible refine (L5.out _ (HM.out _ hb)).mono ?_); rintro e w9 ⟨rfl, hb9⟩; have hb := hb.trans (hb9.mono hb.size))
        | (go_at_call 8; (with_reducible refine (L6.out _ (HM.out _ hb)).mono ?_); rintro e w9 ⟨rfl, hb9⟩; have hb := hb.trans (hb9.mono hb.size)))
      all_goals
        go_ret
        exact ⟨rfl, hb⟩
end Go.Proofs.YtmfjpdlegaimlaaGreatDoor
