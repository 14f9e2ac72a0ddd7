/- What the laid variables give; numbers and texts of numbers; a text, cut. -/
import Derived.Test.YtmfjpdlegaimlaaGreatDoorShelfE
import Derived.Test.YtmfjpdlegaimlaaGreatDoorApp
import Derived.Test.YtmfjpdlegaimlaaGreatDoorChecked
import Derived.Lib.AppendIntMem
import Derived.Lib.ItoaLen
import Derived.IntWalk
namespace Go.Proofs.YtmfjpdlegaimlaaGreatDoor
section
open Go.RowKit
set_option linter.unusedVariables false

/-- the library's own limit is some number -/
def MaxAt (w : World) : Prop := ∃ m, w.cell? ⟨0, 0, none⟩ = some (.int .i64 m)
theorem MaxAt.below {w w' : World} (h : MaxAt w) (hb : Below w.heap.size w w') : MaxAt w' := by
  obtain ⟨m, hm⟩ := h
  exact ⟨m, (hb.cell (World.block_lt_of_cell? _ _ hm)).trans hm⟩
/-- what the laid variables give the walks -/
structure Env (w : World) : Prop where
  max : MaxAt w
  tab : Lib.TabIs Tryz.prog w "internal/strconv.uint64pow10" .u64 Lib.pow10Tab

theorem tabIs_below {P : Program} {w w' : World} {name : String} {k : IntKind} {zs : List Int} (h : Lib.TabIs P w name k zs) (hb : Below w.heap.size w w') : Lib.TabIs P w' name k zs := by
  unfold Lib.TabIs World.var? at *
  cases hg : P.globalNamed name with
  | none => simp [hg] at h
  | some g =>
    simp only [hg, Option.bind_some] at h ⊢
    have hlt : g < w.heap.size := by
      rcases Nat.lt_or_ge g w.heap.size with h' | h'
      · exact h'
      · rw [Array.getElem?_eq_none h'] at h; simp at h
    rw [hb.block g hlt]
    exact h
theorem Env.below {w w' : World} (h : Env w) (hb : Below w.heap.size w w') : Env w' := ⟨h.max.below hb, tabIs_below h.tab hb⟩


theorem str_empty {t : ByteArray} (h : t.size = 0) : t.toList = [] := by
  apply List.eq_nil_of_length_eq_zero
  rw [Lib.toList_data]; exact h
theorem str_some {t : ByteArray} (h : ¬ t.size = 0) : t.toList.isEmpty = false := by
  rw [List.isEmpty_eq_false_iff, Lib.toList_data]
  intro e
  exact h (by have := congrArg List.length e; simpa using this)


def numT (n : Int) : ByteArray := ⟨(Lib.itoa n).toArray⟩
theorem itoa_all (n : Int) (w : World) (h0 : -9223372036854775808 ≤ n) (h1 : n ≤ 9223372036854775807) (hE : Env w) :
    Calls Tryz.prog 24 #[.int .i64 n] w fun e w' => e = .returned (.string (numT n)) ∧ Below w.heap.size w w' := by
  refine (Tryz.strconv_Itoa n h0 h1 w hE.tab).mono ?_
  rintro e w' ⟨rfl, k, os, rfl⟩
  exact ⟨rfl, Lib.below_grow _ _ (Nat.le_refl _) _ _⟩

end

section
open Go.RowKit
set_option linter.unusedVariables false

theorem nDig_le : ∀ (k n : Nat), n < 10 ^ (k + 1) → Lib.nDigits n ≤ k + 1
  | 0, n, h => by rw [Lib.nDigits, dif_pos (by simpa using h)]; omega
  | k + 1, n, h => by
    rw [Lib.nDigits]
    split
    · omega
    · have := nDig_le k (n / 10) (by rw [Nat.pow_succ] at h; omega)
      omega
theorem num_neg (n : Int) : numT n = if n < 0 then (⟨#[45]⟩ : ByteArray) ++ ⟨(Lib.decDigits n.natAbs).toArray⟩ else ⟨(Lib.decDigits n.natAbs).toArray⟩ := by
  unfold numT Lib.itoa
  split
  · rw [ba_append]; simp
  · rw [show n.toNat = n.natAbs by omega]

set_option maxHeartbeats 4000000 in
set_option maxRecDepth 100000 in
theorem digits_all (n : Int) (w : World) (h0 : -9223372036854775808 ≤ n) (h1 : n ≤ 9223372036854775807) :
    Calls Tryz.prog 33 #[.int .i64 n] w fun e w' => e = .returned (.string (numT n)) ∧ Below w.heap.size w w' := by
  have hc1 : ∀ (x : Int) (w : World), (convert 98 9 (.slice (some ⟨w.heap.size,0,none⟩) 1 1)).run Tryz.prog (w.alloc (.cells #[.int .u8 x] 5)) = .ok (.string (bytesOf [x])) (w.alloc (.cells #[.int .u8 x] 5)) :=
    fun x w => run_conv_new w _ _ _ [x] 1 Tryz.underlying98 Tryz.underlying5 Tryz.underlying9
  obtain ⟨M, hM⟩ : ∃ M : Nat, M = n.natAbs := ⟨_, rfl⟩
  have hML : M ≤ 9223372036854775808 := by omega
  have HN := Lib.hid (num_neg n)
  rw [← hM] at HN
  have HR : Hid ((⟨(Lib.decDigits M).toArray⟩ : ByteArray).data.toList = Lib.decDigits M) := Lib.hid rfl
  have HZR : Hid ((⟨(Lib.decDigits M).toArray⟩ : ByteArray).size ≤ 20) := Lib.hid (by
    have e : (⟨(Lib.decDigits M).toArray⟩ : ByteArray).size = Lib.nDigits M := by
      show (Lib.decDigits M).toArray.size = _
      simp [Lib.decDigits_length]
    have := nDig_le 19 M (by omega)
    omega)
  generalize numT n = RN at HN ⊢
  generalize (⟨(Lib.decDigits M).toArray⟩ : ByteArray) = R at HN HR HZR
  by_cases hneg : n < 0
  · have d0 : decide (n < 0) = true := by simpa using hneg
    have u1 : IntKind.u64.wrap n = n + 18446744073709551616 := by rw [IntKind.wrap_u64]; omega
    have u2 : IntKind.u64.wrap (-(n + 18446744073709551616)) = (M : Int) := by rw [IntKind.wrap_u64]; omega
    have HN2 : Hid ((⟨#[45]⟩ : ByteArray) ++ R = RN) := Lib.hid (by have e := HN.out; rw [if_pos hneg] at e; exact e.symm)
    clear hneg HN
    go_enter Tryz.func33, Tryz.ntmps33
    go_wp2_with fail
    go_loopw [3, 4] (fun x y wr => ∃ (m : Nat) (t : ByteArray), m ≤ M ∧ t.size ≤ 20 ∧ x = .int .u64 m ∧ y = .string t ∧ Hid (if t.size = 0 then R.data.toList = Lib.decDigits m else R.data.toList = (if m = 0 then [] else Lib.decDigits m) ++ t.data.toList) ∧ Below w.heap.size w wr) (fun x y _ => match y with | .string t => if t.size = 0 then (intOf x).toNat + 2 else (intOf x).toNat | _ => 0)
    case atStart => exact ⟨M, ByteArray.empty, Nat.le_refl _, Nat.zero_le _, by first | rfl | go_num | simp [u1, u2], rfl, Lib.hid (by rw [if_pos (show ByteArray.empty.size = 0 from rfl)]; exact HR.out), Below.refl _ _⟩
    case round =>
      obtain ⟨m, t, hm, ht, rfl, rfl, HI, hb⟩ := hrel
      have hs1 := hb.size
      by_cases hex : m = 0 ∧ ¬ t.size = 0
      · obtain ⟨rfl, h0⟩ := hex
        have d1 := str_some h0
        have HE : Hid (R = t) := Lib.hid (by
          have e := HI.out
          rw [if_neg h0, if_pos rfl] at e
          exact ByteArray.ext (Array.toList_inj.1 (by simpa using e)))
        clear h0
        go_wp2_with fail
        go_ret
        exact ⟨ret_str (by rw [← HN2.out, HE.out]), hb⟩
      · have hm0 : 0 ≤ (m : Int) % 10 ∧ (m : Int) % 10 ≤ 9 := by omega
        obtain ⟨q0, q1⟩ := hm0
        have hw := IntWalk.u8_in (48 + (m : Int) % 10) ⟨by omega, by omega⟩
        have hz : (bytesOf [48 + (m : Int) % 10]).size = 1 := rfl
        have hbz : (bytesOf [48 + (m : Int) % 10] ++ t).size = t.size + 1 := by rw [ByteArray.size_append, hz]; omega
        have HI2 : Hid (if (bytesOf [48 + (m : Int) % 10] ++ t).size = 0 then R.data.toList = Lib.decDigits (m / 10) else R.data.toList = (if m / 10 = 0 then [] else Lib.decDigits (m / 10)) ++ (bytesOf [48 + (m : Int) % 10] ++ t).data.toList) := Lib.hid (by
          have e := HI.out
          have ed : (bytesOf [48 + (m : Int) % 10] ++ t).data.toList = [UInt8.ofNat (48 + m % 10)] ++ t.data.toList := by
            rw [ByteArray.data_append, Array.toList_append]
            congr 1
          rw [if_neg (by omega), ed]
          have hd : Lib.decDigits m = (if m / 10 = 0 then [] else Lib.decDigits (m / 10)) ++ [UInt8.ofNat (48 + m % 10)] := by
            rw [Lib.decDigits]
            by_cases h10 : m < 10
            · rw [dif_pos h10, if_pos (by omega), show m % 10 = m by omega]; rfl
            · rw [dif_neg h10, if_neg (by omega)]
          by_cases ht0 : t.size = 0
          · rw [if_pos ht0] at e
            have et : t.data.toList = [] := List.eq_nil_of_length_eq_zero ht0
            rw [e, hd, et]; simp
          · rw [if_neg ht0, if_neg (fun h => hex ⟨h, ht0⟩)] at e
            rw [e, hd, List.append_assoc])
        have HZ : Hid ((bytesOf [48 + (m : Int) % 10] ++ t).size = t.size + 1 ∧ (bytesOf [48 + (m : Int) % 10] ++ t).size ≤ 20) := Lib.hid ⟨hbz, by
          have e := HI2.out
          rw [if_neg (by omega)] at e
          have e2 := congrArg List.length e
          rw [List.length_append] at e2
          have e3 : R.data.toList.length = R.size := rfl
          have e4 : (bytesOf [48 + (m : Int) % 10] ++ t).data.toList.length = (bytesOf [48 + (m : Int) % 10] ++ t).size := rfl
          have := HZR.out
          omega⟩
        clear hbz
        by_cases ht0 : t.size = 0
        · have d1 := str_empty ht0
          by_cases hmz : (0 : Int) < (m : Int)
          · go_wp2_with fail
            go_roundw
            case rel => exact ⟨m / 10, _, by omega, HZ.out.2, by go_num, rfl, HI2, hb.alloc hs1 _⟩
            case measure => have := HZ.out; simp [intOf, ht0]; first | omega | (split <;> omega)
          · obtain rfl : m = 0 := by omega
            have e0 : bytesOf [48 + ((0 : Nat) : Int) % 10] = bytesOf [48] := rfl
            rw [e0] at HI2 HZ
            clear hw hmz hz
            go_wp2_with fail
            go_roundw
            case rel => exact ⟨0, _, by omega, HZ.out.2, by go_num, rfl, HI2, hb.alloc hs1 _⟩
            case measure => have hne : ¬ bytesOf [48] = ByteArray.empty := by decide
                            simp [intOf, ht0, hne]
        · have d1 := str_some ht0
          have hmz : (0 : Int) < (m : Int) := by omega
          go_wp2_with fail
          go_roundw
          case rel => exact ⟨m / 10, _, by omega, HZ.out.2, by go_num, rfl, HI2, hb.alloc hs1 _⟩
          case measure => have := HZ.out; simp [intOf, ht0]; first | omega | (split <;> omega)
  · have d0 : decide (n < 0) = false := by simpa using hneg
    have u1 : IntKind.u64.wrap n = (M : Int) := by rw [IntKind.wrap_u64]; omega
    have HN2 : Hid (R = RN) := Lib.hid (by have e := HN.out; rw [if_neg hneg] at e; exact e.symm)
    clear hneg HN
    go_enter Tryz.func33, Tryz.ntmps33
    go_wp2_with fail
    go_loopw [3, 4] (fun x y wr => ∃ (m : Nat) (t : ByteArray), m ≤ M ∧ t.size ≤ 20 ∧ x = .int .u64 m ∧ y = .string t ∧ Hid (if t.size = 0 then R.data.toList = Lib.decDigits m else R.data.toList = (if m = 0 then [] else Lib.decDigits m) ++ t.data.toList) ∧ Below w.heap.size w wr) (fun x y _ => match y with | .string t => if t.size = 0 then (intOf x).toNat + 2 else (intOf x).toNat | _ => 0)
    case atStart => exact ⟨M, ByteArray.empty, Nat.le_refl _, Nat.zero_le _, by first | rfl | go_num | simp [u1], rfl, Lib.hid (by rw [if_pos (show ByteArray.empty.size = 0 from rfl)]; exact HR.out), Below.refl _ _⟩
    case round =>
      obtain ⟨m, t, hm, ht, rfl, rfl, HI, hb⟩ := hrel
      have hs1 := hb.size
      by_cases hex : m = 0 ∧ ¬ t.size = 0
      · obtain ⟨rfl, h0⟩ := hex
        have d1 := str_some h0
        have HE : Hid (R = t) := Lib.hid (by
          have e := HI.out
          rw [if_neg h0, if_pos rfl] at e
          exact ByteArray.ext (Array.toList_inj.1 (by simpa using e)))
        clear h0
        go_wp2_with fail
        go_ret
        exact ⟨ret_str (by rw [← HN2.out, HE.out]), hb⟩
      · have hm0 : 0 ≤ (m : Int) % 10 ∧ (m : Int) % 10 ≤ 9 := by omega
        obtain ⟨q0, q1⟩ := hm0
        have hw := IntWalk.u8_in (48 + (m : Int) % 10) ⟨by omega, by omega⟩
        have hz : (bytesOf [48 + (m : Int) % 10]).size = 1 := rfl
        have hbz : (bytesOf [48 + (m : Int) % 10] ++ t).size = t.size + 1 := by rw [ByteArray.size_append, hz]; omega
        have HI2 : Hid (if (bytesOf [48 + (m : Int) % 10] ++ t).size = 0 then R.data.toList = Lib.decDigits (m / 10) else R.data.toList = (if m / 10 = 0 then [] else Lib.decDigits (m / 10)) ++ (bytesOf [48 + (m : Int) % 10] ++ t).data.toList) := Lib.hid (by
          have e := HI.out
          have ed : (bytesOf [48 + (m : Int) % 10] ++ t).data.toList = [UInt8.ofNat (48 + m % 10)] ++ t.data.toList := by
            rw [ByteArray.data_append, Array.toList_append]
            congr 1
          rw [if_neg (by omega), ed]
          have hd : Lib.decDigits m = (if m / 10 = 0 then [] else Lib.decDigits (m / 10)) ++ [UInt8.ofNat (48 + m % 10)] := by
            rw [Lib.decDigits]
            by_cases h10 : m < 10
            · rw [dif_pos h10, if_pos (by omega), show m % 10 = m by omega]; rfl
            · rw [dif_neg h10, if_neg (by omega)]
          by_cases ht0 : t.size = 0
          · rw [if_pos ht0] at e
            have et : t.data.toList = [] := List.eq_nil_of_length_eq_zero ht0
            rw [e, hd, et]; simp
          · rw [if_neg ht0, if_neg (fun h => hex ⟨h, ht0⟩)] at e
            rw [e, hd, List.append_assoc])
        have HZ : Hid ((bytesOf [48 + (m : Int) % 10] ++ t).size = t.size + 1 ∧ (bytesOf [48 + (m : Int) % 10] ++ t).size ≤ 20) := Lib.hid ⟨hbz, by
          have e := HI2.out
          rw [if_neg (by omega)] at e
          have e2 := congrArg List.length e
          rw [List.length_append] at e2
          have e3 : R.data.toList.length = R.size := rfl
          have e4 : (bytesOf [48 + (m : Int) % 10] ++ t).data.toList.length = (bytesOf [48 + (m : Int) % 10] ++ t).size := rfl
          have := HZR.out
          omega⟩
        clear hbz
        by_cases ht0 : t.size = 0
        · have d1 := str_empty ht0
          by_cases hmz : (0 : Int) < (m : Int)
          · go_wp2_with fail
            go_roundw
            case rel => exact ⟨m / 10, _, by omega, HZ.out.2, by go_num, rfl, HI2, hb.alloc hs1 _⟩
            case measure => have := HZ.out; simp [intOf, ht0]; first | omega | (split <;> omega)
          · obtain rfl : m = 0 := by omega
            have e0 : bytesOf [48 + ((0 : Nat) : Int) % 10] = bytesOf [48] := rfl
            rw [e0] at HI2 HZ
            clear hw hmz hz
            go_wp2_with fail
            go_roundw
            case rel => exact ⟨0, _, by omega, HZ.out.2, by go_num, rfl, HI2, hb.alloc hs1 _⟩
            case measure => have hne : ¬ bytesOf [48] = ByteArray.empty := by decide
                            simp [intOf, ht0, hne]
        · have d1 := str_some ht0
          have hmz : (0 : Int) < (m : Int) := by omega
          go_wp2_with fail
          go_roundw
          case rel => exact ⟨m / 10, _, by omega, HZ.out.2, by go_num, rfl, HI2, hb.alloc hs1 _⟩
          case measure => have := HZ.out; simp [intOf, ht0]; first | omega | (split <;> omega)
end
end Go.Proofs.YtmfjpdlegaimlaaGreatDoor
