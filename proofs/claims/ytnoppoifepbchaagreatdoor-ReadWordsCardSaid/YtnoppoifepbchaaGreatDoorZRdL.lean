/- Of any text the source; any words in any order: the laws ReadTells and ReadWords walked. -/
import Derived.Test.YtnoppoifepbchaaGreatDoorZSm
import Derived.Test.YtnoppoifepbchaaGreatDoorShB
import Derived.IntWalk
namespace Go.Proofs.YtnoppoifepbchaaGreatDoor
open Go.RowKit
set_option linter.unusedVariables false
set_option linter.unusedSimpArgs false

def InI7 (l : List Int) : Prop := ∀ x ∈ l, -9223372036854775808 ≤ x ∧ x ≤ 9223372036854775807
theorem wf_in7 {l : List Int} (h : InI7 l) (k : Nat) : (Lit.int .i64 (l.getD k 0)).wf = true := by
 have h2 : -9223372036854775808 ≤ l.getD k 0 ∧ l.getD k 0 ≤ 9223372036854775807 := by
  rw [List.getD_eq_getElem?_getD]
  by_cases hk : k < l.length
  · rw [List.getElem?_eq_getElem hk]; exact h _ (List.getElem_mem hk)
  · rw [List.getElem?_eq_none (by omega)]; decide
 simpa [Lit.wf, IntKind.min, IntKind.max, IntKind.signed, IntKind.bits] using h2

set_option maxRecDepth 100000 in
theorem readTells_any (s : ByteArray) {w : World} (hs : s.size ≤ maxLen) (hE : LexEnv w) :
  Calls Tryz.prog 3 #[.string s] w fun e w' => e = .returned (.bool true) ∧ Below w.heap.size w w' := by
 have HW := Lib.hid (Sh.wakes7_any w hE.env.max)
 have HT : Hid (∀ W, Calls Tryz.prog 10 #[.string s, .int .i64 600] W fun e w' => e = .returned (.string (cutT s 600)) ∧ W = w') := Lib.hid (fun W => text_any s 600 W hs (by omega))
 have hz := cutT_size s 600
 have HS := Lib.hid (fun (W : World) (h : LexEnv W) => same7_any (cutT s 600) W (by omega) h)
 have HE := Lib.hid hE
 generalize cutT s 600 = t at *
 clear hE hz hs
 go_enter Tryz.func3, Tryz.ntmps3
 go_wp2_with (first
  | (go_at_call 8; refine HW.out.mono ?_; rintro e w1 ⟨rfl, hb1⟩; have hE1 := Lib.hid (HE.out.below hb1))
  | (go_at_call 10; refine (HT.out _).mono ?_; rintro e w8 ⟨rfl, rfl⟩)
  | (go_at_call 9; refine (HS.out _ hE1.out).mono ?_; rintro e w2 ⟨rfl, hb2⟩))
 go_ret
 exact ⟨rfl, hb1.trans (hb2.mono hb1.size)⟩

set_option maxRecDepth 100000 in
set_option maxHeartbeats 8000000 in
theorem readWords_any (v : Value) (l : List Int) {w : World} (hvi : IntsV w v l ∧ InI7 l) (hE : LexEnv w) :
  Calls Tryz.prog 4 #[v] w fun e w' => e = .returned (.bool true) ∧ Below w.heap.size w w' := by
 obtain ⟨hv, hi⟩ := hvi
 have HW := Lib.hid (Sh.wakes7_any w hE.env.max)
 have HM : Hid (∀ W, Below w.heap.size w W → LexEnv W) := Lib.hid (fun W hb => hE.below hb)
 have HL : Hid (∀ (t : ByteArray) W, t.size ≤ 1000000 → LexEnv W → Calls Tryz.prog 9 #[.string t] W fun e w' => e = .returned (.bool true) ∧ Below W.heap.size W w') := Lib.hid (fun t W h1 h2 => same7_any t W h1 h2)
 have HI := Lib.hid hv
 have HF := Lib.hid (fun k => wf_in7 hi k)
 have HN : Hid (∀ (x : Int), (Lit.int .i64 x).wf = true → ∀ W, ∃ q : Nat, q < 21 ∧ Calls Tryz.prog 11 #[.int .i64 x, .int .i64 21] W fun e w' => e = .returned (.int .i64 (q : Int)) ∧ W = w') := Lib.hid (fun x hx W => by
  obtain ⟨q, hq⟩ : ∃ q : Nat, (q : Int) = x % ((21 : Nat) : Int) := ⟨(x % 21).toNat, by omega⟩
  refine ⟨q, by omega, ?_⟩
  rw [hq]
  exact within_any x 21 W hx (by omega) (by omega))
 clear hE hi
 go_enter Tryz.func4, Tryz.ntmps4
 go_wp2_with (first
  | (go_at_call 8; refine HW.out.mono ?_; rintro e w1 ⟨rfl, hb1⟩; have hI1 := Lib.hid (HI.out.below hb1)))
 have hs1 := hb1.size
 have hX : ∀ j, j < 21 → ∃ y : ByteArray, y.size ≤ 20 ∧ (w1.alloc (.cells #[.string ⟨#[97]⟩, .string ⟨#[98]⟩, .string ⟨#[39, 120, 39]⟩, .string ⟨#[39, 92, 110, 39]⟩, .string ⟨#[49, 50]⟩, .string ⟨#[60, 116, 62]⟩, .string ⟨#[37, 116, 111, 107, 101, 110]⟩, .string ⟨#[37, 108, 101, 102, 116]⟩, .string ⟨#[37, 110, 111, 110, 97, 115, 115, 111, 99]⟩, .string ⟨#[37, 116, 121, 112, 101]⟩, .string ⟨#[37, 115, 116, 97, 114, 116]⟩, .string ⟨#[37, 112, 114, 101, 99]⟩, .string ⟨#[58]⟩, .string ⟨#[59]⟩, .string ⟨#[124]⟩, .string ⟨#[37, 37]⟩, .string ⟨#[123, 36, 49, 125]⟩, .string ⟨#[37, 123, 112, 37, 125]⟩, .string ⟨#[37, 114, 105, 103, 104, 116]⟩, .string ⟨#[101, 114, 114, 111, 114]⟩, .string ⟨#[37, 37, 10, 97, 58]⟩] 9)).cell? ⟨w1.heap.size, j, none⟩ = some (.string y) := by
  intro j hj
  match j, hj with
  | 0, _ => exact ⟨_, by decide, cell_top w1 _ _ _ _ rfl⟩
  | 1, _ => exact ⟨_, by decide, cell_top w1 _ _ _ _ rfl⟩
  | 2, _ => exact ⟨_, by decide, cell_top w1 _ _ _ _ rfl⟩
  | 3, _ => exact ⟨_, by decide, cell_top w1 _ _ _ _ rfl⟩
  | 4, _ => exact ⟨_, by decide, cell_top w1 _ _ _ _ rfl⟩
  | 5, _ => exact ⟨_, by decide, cell_top w1 _ _ _ _ rfl⟩
  | 6, _ => exact ⟨_, by decide, cell_top w1 _ _ _ _ rfl⟩
  | 7, _ => exact ⟨_, by decide, cell_top w1 _ _ _ _ rfl⟩
  | 8, _ => exact ⟨_, by decide, cell_top w1 _ _ _ _ rfl⟩
  | 9, _ => exact ⟨_, by decide, cell_top w1 _ _ _ _ rfl⟩
  | 10, _ => exact ⟨_, by decide, cell_top w1 _ _ _ _ rfl⟩
  | 11, _ => exact ⟨_, by decide, cell_top w1 _ _ _ _ rfl⟩
  | 12, _ => exact ⟨_, by decide, cell_top w1 _ _ _ _ rfl⟩
  | 13, _ => exact ⟨_, by decide, cell_top w1 _ _ _ _ rfl⟩
  | 14, _ => exact ⟨_, by decide, cell_top w1 _ _ _ _ rfl⟩
  | 15, _ => exact ⟨_, by decide, cell_top w1 _ _ _ _ rfl⟩
  | 16, _ => exact ⟨_, by decide, cell_top w1 _ _ _ _ rfl⟩
  | 17, _ => exact ⟨_, by decide, cell_top w1 _ _ _ _ rfl⟩
  | 18, _ => exact ⟨_, by decide, cell_top w1 _ _ _ _ rfl⟩
  | 19, _ => exact ⟨_, by decide, cell_top w1 _ _ _ _ rfl⟩
  | 20, _ => exact ⟨_, by decide, cell_top w1 _ _ _ _ rfl⟩
  | j + 21, h => exact absurd h (by omega)
 have hb2 := hb1.alloc hs1 (.cells #[.string ⟨#[97]⟩, .string ⟨#[98]⟩, .string ⟨#[39, 120, 39]⟩, .string ⟨#[39, 92, 110, 39]⟩, .string ⟨#[49, 50]⟩, .string ⟨#[60, 116, 62]⟩, .string ⟨#[37, 116, 111, 107, 101, 110]⟩, .string ⟨#[37, 108, 101, 102, 116]⟩, .string ⟨#[37, 110, 111, 110, 97, 115, 115, 111, 99]⟩, .string ⟨#[37, 116, 121, 112, 101]⟩, .string ⟨#[37, 115, 116, 97, 114, 116]⟩, .string ⟨#[37, 112, 114, 101, 99]⟩, .string ⟨#[58]⟩, .string ⟨#[59]⟩, .string ⟨#[124]⟩, .string ⟨#[37, 37]⟩, .string ⟨#[123, 36, 49, 125]⟩, .string ⟨#[37, 123, 112, 37, 125]⟩, .string ⟨#[37, 114, 105, 103, 104, 116]⟩, .string ⟨#[101, 114, 114, 111, 114]⟩, .string ⟨#[37, 37, 10, 97, 58]⟩] 9)
 have hI2 := HI.out.below hb2
 generalize w1.alloc (.cells #[.string ⟨#[97]⟩, .string ⟨#[98]⟩, .string ⟨#[39, 120, 39]⟩, .string ⟨#[39, 92, 110, 39]⟩, .string ⟨#[49, 50]⟩, .string ⟨#[60, 116, 62]⟩, .string ⟨#[37, 116, 111, 107, 101, 110]⟩, .string ⟨#[37, 108, 101, 102, 116]⟩, .string ⟨#[37, 110, 111, 110, 97, 115, 115, 111, 99]⟩, .string ⟨#[37, 116, 121, 112, 101]⟩, .string ⟨#[37, 115, 116, 97, 114, 116]⟩, .string ⟨#[37, 112, 114, 101, 99]⟩, .string ⟨#[58]⟩, .string ⟨#[59]⟩, .string ⟨#[124]⟩, .string ⟨#[37, 37]⟩, .string ⟨#[123, 36, 49, 125]⟩, .string ⟨#[37, 123, 112, 37, 125]⟩, .string ⟨#[37, 114, 105, 103, 104, 116]⟩, .string ⟨#[101, 114, 114, 111, 114]⟩, .string ⟨#[37, 37, 10, 97, 58]⟩] 9) = w2 at *
 generalize w1.heap.size = B at *
 clear hI1 HI hv hb1 HW hs1
 obtain ⟨a, n, c, rfl, hnl, hnc, hc, hx⟩ := hI2.open
 have HX := Lib.hid hX
 clear hX hI2
 go_loop [4, 5] (fun x y => ∃ (k : Nat) (t : ByteArray), k ≤ n ∧ k ≤ 40 ∧ t.size ≤ 21 * k ∧ x = .string t ∧ y = .int .i64 k) (fun x y => n - (intOf y).toNat)
 case atStart => exact ⟨0, ⟨#[]⟩, Nat.zero_le _, Nat.zero_le _, Nat.zero_le _, rfl, rfl⟩
 case round =>
  obtain ⟨k, t, hk, hk2, ht, rfl, rfl⟩ := hrel
  by_cases hlt : k < n ∧ k < 40
  · obtain ⟨hlt, hlt2⟩ := hlt
    obtain ⟨b, off, ha, hcell⟩ := hx.out k hlt
    obtain ⟨q, hq, hcl⟩ := HN.out _ (HF.out k) w2
    have HCL := Lib.hid hcl
    obtain ⟨y, hy, hyc⟩ := HX.out q hq
    subst ha
    generalize l.getD k 0 = x at hcell HCL
    have hsum : t.size + y.size ≤ 1000 := by omega
    have hsz : (t ++ y).size = t.size + y.size := ByteArray.size_append
    have hsz2 : (t ++ y ++ ⟨#[32]⟩).size = t.size + y.size + 1 := by rw [ByteArray.size_append, hsz]; rfl
    clear hcl HL HN HM hx HX
    go_wp2_with (first | (go_at_call 11; refine (HCL.out).mono ?_; rintro e w' ⟨rfl, rfl⟩))
    go_round
    case rel => exact ⟨k + 1, t ++ y ++ ⟨#[32]⟩, by omega, by omega, by omega, rfl, by go_num⟩
    case measure => simp [intOf]; omega
  · have ht2 : t.size ≤ 840 := by omega
    clear hx HX HN HF ht
    have q1 : t.size ≤ 1000000 := by omega
    have q2 : ((⟨#[37, 37]⟩ : ByteArray) ++ t).size ≤ 1000000 := by rw [ByteArray.size_append]; show 2 + _ ≤ _; omega
    have q3 : ((⟨#[37, 116, 111, 107, 101, 110, 32, 65, 32, 51, 32]⟩ : ByteArray) ++ t).size ≤ 1000000 := by rw [ByteArray.size_append]; show 11 + _ ≤ _; omega
    have q4 : ((⟨#[37, 37, 32, 97, 32, 58, 32, 39, 120, 39, 32]⟩ : ByteArray) ++ t).size ≤ 1000000 := by rw [ByteArray.size_append]; show 11 + _ ≤ _; omega
    have L1 := Lib.hid (fun W h => HL.out _ W q1 h)
    have L2 := Lib.hid (fun W h => HL.out _ W q2 h)
    have L3 := Lib.hid (fun W h => HL.out _ W q3 h)
    have L4 := Lib.hid (fun W h => HL.out _ W q4 h)
    clear q1 q2 q3 q4 HL
    have hb := hb2
    go_wp2_with (first
     | (go_at_call 9; (with_reducible refine (L1.out _ (HM.out _ hb)).mono ?_); rintro e w9 ⟨rfl, hb9⟩; have hb := hb.trans (hb9.mono hb.size))
     | (go_at_call 9; (with_reducible refine (L2.out _ (HM.out _ hb)).mono ?_); rintro e w9 ⟨rfl, hb9⟩; have hb := hb.trans (hb9.mono hb.size))
     | (go_at_call 9; (with_reducible refine (L3.out _ (HM.out _ hb)).mono ?_); rintro e w9 ⟨rfl, hb9⟩; have hb := hb.trans (hb9.mono hb.size))
     | (go_at_call 9; (with_reducible refine (L4.out _ (HM.out _ hb)).mono ?_); rintro e w9 ⟨rfl, hb9⟩; have hb := hb.trans (hb9.mono hb.size)))
    all_goals
     go_ret
     exact ⟨rfl, hb⟩
end Go.Proofs.YtnoppoifepbchaaGreatDoor
