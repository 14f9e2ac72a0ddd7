/- The document's small functions on numbers. -/
import Derived.Test.YtmpdpgbcflogfaaDoorBodyWakes
import Derived.IntWalk
namespace Go.Proofs.YtmpdpgbcflogfaaDoor
open Go.RowKit
set_option linter.unusedVariables false

theorem tmod_emod (i : Int) (n : Nat) (hn : 0 < n) : (if Int.tmod i n < 0 then Int.tmod i n + n else Int.tmod i n) = i % n := by
  have h := Int.emod_nonneg i (show (n : Int) ≠ 0 by omega)
  by_cases h0 : 0 ≤ i
  · rw [Int.tmod_eq_emod_of_nonneg h0, if_neg (by omega)]
  · rw [Int.tmod_eq_emod]
    split <;> rename_i h1
    · rcases h1 with h1 | h1
      · omega
      · have : i % n = 0 := Int.emod_eq_zero_of_dvd h1
        rw [this]
        simp
    · have h2 := Int.emod_lt_of_pos i (show (0 : Int) < n by omega)
      have e : ((n : Int).natAbs : Int) = n := by omega
      rw [e, if_pos (by omega)]; omega

set_option maxRecDepth 100000 in
theorem within_any (i : Int) (n : Nat) (w : World) (hi : (Lit.int .i64 i).wf = true) (hn : 0 < n) (hn2 : n ≤ 1000000) :
    Calls Tryd.prog 23 #[.int .i64 i, .int .i64 n] w fun e w' => e = .returned (.int .i64 (i % n)) ∧ w = w' := by
  have hw : -9223372036854775808 ≤ i ∧ i ≤ 9223372036854775807 := by simpa [Lit.wf, IntKind.min, IntKind.max, IntKind.signed, IntKind.bits] using hi
  have HM := Lib.hid (tmod_emod i n hn)
  have hl : -1000000 ≤ Int.tmod i n ∧ Int.tmod i n ≤ 1000000 := by
    have h := tmod_emod i n hn
    have h1 := Int.emod_nonneg i (show (n : Int) ≠ 0 by omega)
    have h2 := Int.emod_lt_of_pos i (show (0 : Int) < n by omega)
    split at h <;> omega
  obtain ⟨l1, l2⟩ := hl
  go_enter Tryd.func23, Tryd.ntmps23
  go_wp2
  all_goals
    go_ret
    exact ⟨ret_int (by have e := HM.out; grind), rfl⟩

set_option maxRecDepth 100000 in
theorem digitsOf_any (n : Nat) (w : World) (hn : n ≤ 1000000000) :
    Calls Tryd.prog 24 #[.int .i64 n] w fun e w' => e = .returned (.string (numT n)) ∧ Below w.heap.size w w' := by
  have hc1 : ∀ (x : Int) (w : World), (convert 45 9 (.slice (some ⟨w.heap.size,0,none⟩) 1 1)).run Tryd.prog (w.alloc (.cells #[.int .u8 x] 5)) = .ok (.string (bytesOf [x])) (w.alloc (.cells #[.int .u8 x] 5)) :=
    fun x w => run_conv_new w _ _ _ [x] 1 Tryd.underlying45 Tryd.underlying5 Tryd.underlying9
  have HR : Hid ((numT n).data.toList = Lib.decDigits n) := Lib.hid (by unfold numT Lib.itoa; rw [if_neg (by omega)]; rfl)
  generalize numT n = R at HR ⊢
  go_enter Tryd.func24, Tryd.ntmps24
  go_wp2_with fail
  go_loopw [3, 4] (fun x y wr => ∃ (m : Nat) (t : ByteArray), m ≤ n ∧ t.size + m ≤ n + 1 ∧ x = .int .u64 m ∧ y = .string t ∧ Hid (if t.size = 0 then R.data.toList = Lib.decDigits m else R.data.toList = (if m = 0 then [] else Lib.decDigits m) ++ t.data.toList) ∧ Below w.heap.size w wr) (fun x y _ => match y with | .string t => if t.size = 0 then (intOf x).toNat + 2 else (intOf x).toNat | _ => 0)
  case atStart => exact ⟨n, ByteArray.empty, Nat.le_refl _, by show 0 + n ≤ n + 1; omega, rfl, rfl, Lib.hid (by rw [if_pos (show ByteArray.empty.size = 0 from rfl)]; exact HR.out), Below.refl _ _⟩
  case round =>
    obtain ⟨m, t, hm, ht, rfl, rfl, HI, hb⟩ := hrel
    have hs1 := hb.size
    by_cases hex : m = 0 ∧ ¬ t.size = 0
    · obtain ⟨rfl, h0⟩ := hex
      have d1 := str_some h0
      have HE : Hid (R = t) := Lib.hid (by
        have e := HI.out
        rw [if_neg h0, if_pos rfl] at e
        exact ByteArray.ext (Array.toList_inj.1 (by simpa using e)))
      clear h0
      go_wp2_with fail
      go_ret
      exact ⟨ret_str HE.out.symm, hb⟩
    · have hm0 : 0 ≤ (m : Int) % 10 ∧ (m : Int) % 10 ≤ 9 := by omega
      obtain ⟨q0, q1⟩ := hm0
      have hw := IntWalk.u8_in (48 + (m : Int) % 10) ⟨by omega, by omega⟩
      have hz : (bytesOf [48 + (m : Int) % 10]).size = 1 := rfl
      have hbz : (bytesOf [48 + (m : Int) % 10] ++ t).size = t.size + 1 := by rw [ByteArray.size_append, hz]; omega
      have HZ := Lib.hid hbz
      have HI2 : Hid (if (bytesOf [48 + (m : Int) % 10] ++ t).size = 0 then R.data.toList = Lib.decDigits (m / 10) else R.data.toList = (if m / 10 = 0 then [] else Lib.decDigits (m / 10)) ++ (bytesOf [48 + (m : Int) % 10] ++ t).data.toList) := Lib.hid (by
        have e := HI.out
        have ed : (bytesOf [48 + (m : Int) % 10] ++ t).data.toList = [UInt8.ofNat (48 + m % 10)] ++ t.data.toList := by
          rw [ByteArray.data_append, Array.toList_append]
          congr 1
        rw [if_neg (by omega), ed]
        have hd : Lib.decDigits m = (if m / 10 = 0 then [] else Lib.decDigits (m / 10)) ++ [UInt8.ofNat (48 + m % 10)] := by
          rw [Lib.decDigits]
          by_cases h10 : m < 10
          · rw [dif_pos h10, if_pos (by omega), show m % 10 = m by omega]; rfl
          · rw [dif_neg h10, if_neg (by omega)]
        by_cases ht0 : t.size = 0
        · rw [if_pos ht0] at e
          have et : t.data.toList = [] := List.eq_nil_of_length_eq_zero ht0
          rw [e, hd, et]; simp
        · rw [if_neg ht0, if_neg (fun h => hex ⟨h, ht0⟩)] at e
          rw [e, hd, List.append_assoc])
      clear hbz
      by_cases ht0 : t.size = 0
      · have d1 := str_empty ht0
        by_cases hmz : (0 : Int) < (m : Int)
        · go_wp2_with fail
          go_roundw
          case rel => exact ⟨m / 10, _, by omega, by rw [HZ.out]; omega, by go_num, rfl, HI2, hb.alloc hs1 _⟩
          case measure => have := HZ.out; simp [intOf, ht0]; first | omega | (split <;> omega)
        · obtain rfl : m = 0 := by omega
          have e0 : bytesOf [48 + ((0 : Nat) : Int) % 10] = bytesOf [48] := rfl
          rw [e0] at HI2 HZ
          clear hw hmz hz
          go_wp2_with fail
          go_roundw
          case rel => exact ⟨0, _, by omega, by rw [HZ.out]; omega, by go_num, rfl, HI2, hb.alloc hs1 _⟩
          case measure => have hne : ¬ bytesOf [48] = ByteArray.empty := by decide
                          simp [intOf, ht0, hne]
      · have d1 := str_some ht0
        have hmz : (0 : Int) < (m : Int) := by omega
        go_wp2_with fail
        go_roundw
        case rel => exact ⟨m / 10, _, by omega, by rw [HZ.out]; omega, by go_num, rfl, HI2, hb.alloc hs1 _⟩
        case measure => have := HZ.out; simp [intOf, ht0]; first | omega | (split <;> omega)

end Go.Proofs.YtmpdpgbcflogfaaDoor
