/- The document's small functions on numbers. -/
import Derived.Test.YtmpdpgbcflogfaaDoorBodyWakes
import Derived.IntWalk
namespace Go.Proofs.YtmpdpgbcflogfaaDoor
section
open Go.RowKit
set_option linter.unusedVariables false

theorem tmod_emod (i : Int) (n : Nat) (hn : 0 < n) : (if Int.tmod i n < 0 then Int.tmod i n + n else Int.tmod i n) = i % n := by
  have h := Int.emod_nonneg i (show (n : Int) ≠ 0 by omega)
  by_cases h0 : 0 ≤ i
  · rw [Int.tmod_eq_emod_of_nonneg h0, if_neg (by omega)]
  · rw [Int.tmod_eq_emod]
    split <;> rename_i h1
    · rcases h1 with h1 | h1
      · omega
      · have : i % n = 0 := Int.emod_eq_zero_of_dvd h1
        rw [this]
        simp
    · have h2 := Int.emod_lt_of_pos i (show (0 : Int) < n by omega)
      have e : ((n : Int).natAbs : Int) = n := by omega
      rw [e, if_pos (by omega)]; omega

set_option maxRecDepth 100000 in
theorem within_any (i : Int) (n : Nat) (w : World) (hi : (Lit.int .i64 i).wf = true) (hn : 0 < n) (hn2 : n ≤ 1000000) :
    Calls Tryd.prog 23 #[.int .i64 i, .int .i64 n] w fun e w' => e = .returned (.int .i64 (i % n)) ∧ w = w' := by
  have hw : -9223372036854775808 ≤ i ∧ i ≤ 9223372036854775807 := by simpa [Lit.wf, IntKind.min, IntKind.max, IntKind.signed, IntKind.bits] using hi
  have HM := Lib.hid (tmod_emod i n hn)
  have hl : -1000000 ≤ Int.tmod i n ∧ Int.tmod i n ≤ 1000000 := by
    have h := tmod_emod i n hn
    have h1 := Int.emod_nonneg i (show (n : Int) ≠ 0 by omega)
    have h2 := Int.emod_lt_of_pos i (show (0 : Int) < n by omega)
    split at h <;> omega
  obtain ⟨l1, l2⟩ := hl
  go_enter Tryd.func23, Tryd.ntmps23
  go_wp2
  all_goals
    go_ret
    exact ⟨ret_int (by have e := HM.out; grind), rfl⟩

set_option maxRecDepth 100000 in
theorem digitsOf_any (n : Nat) (w : World) (hn : n ≤ 1000000000) :
    Calls Tryd.prog 24 #[.int .i64 n] w fun e w' => e = .returned (.string (numT n)) ∧ Below w.heap.size w w' := by
  have hc1 : ∀ (x : Int) (w : World), (convert 45 9 (.slice (some ⟨w.heap.size,0,none⟩) 1 1)).run Tryd.prog (w.alloc (.cells #[.int .u8 x] 5)) = .ok (.string (bytesOf [x])) (w.alloc (.cells #[.int .u8 x] 5)) :=
    fun x w => run_conv_new w _ _ _ [x] 1 Tryd.underlying45 Tryd.underlying5 Tryd.underlying9
  have HR : Hid ((numT n).data.toList = Lib.decDigits n) := Lib.hid (by unfold numT Lib.itoa; rw [if_neg (by omega)]; rfl)
  generalize numT n = R at HR ⊢
  go_enter Tryd.func24, Tryd.ntmps24
  go_wp2_with fail
  go_loopw [3, 4] (fun x y wr => ∃ (m : Nat) (t : ByteArray), m ≤ n ∧ t.size + m ≤ n + 1 ∧ x = .int .u64 m ∧ y = .string t ∧ Hid (if t.size = 0 then R.data.toList = Lib.decDigits m else R.data.toList = (if m = 0 then [] else Lib.decDigits m) ++ t.data.toList) ∧ Below w.heap.size w wr) (fun x y _ => match y with | .string t => if t.size = 0 then (intOf x).toNat + 2 else (intOf x).toNat | _ => 0)
  case atStart => exact ⟨n, ByteArray.empty, Nat.le_refl _, by show 0 + n ≤ n + 1; omega, rfl, rfl, Lib.hid (by rw [if_pos (show ByteArray.empty.size = 0 from rfl)]; exact HR.out), Below.refl _ _⟩
  case round =>
    obtain ⟨m, t, hm, ht, rfl, rfl, HI, hb⟩ := hrel
    have hs1 := hb.size
    by_cases hex : m = 0 ∧ ¬ t.size = 0
    · obtain ⟨rfl, h0⟩ := hex
      have d1 := str_some h0
      have HE : Hid (R = t) := Lib.hid (by
        have e := HI.out
        rw [if_neg h0, if_pos rfl] at e
        exact ByteArray.ext (Array.toList_inj.1 (by simpa using e)))
      clear h0
      go_wp2_with fail
      go_ret
      exact ⟨ret_str HE.out.symm, hb⟩
    · have hm0 : 0 ≤ (m : Int) % 10 ∧ (m : Int) % 10 ≤ 9 := by omega
      obtain ⟨q0, q1⟩ := hm0
      have hw := IntWalk.u8_in (48 + (m : Int) % 10) ⟨by omega, by omega⟩
      have hz : (bytesOf [48 + (m : Int) % 10]).size = 1 := rfl
      have hbz : (bytesOf [48 + (m : Int) % 10] ++ t).size = t.size + 1 := by rw [ByteArray.size_append, hz]; omega
      have HZ := Lib.hid hbz
      have HI2 : Hid (if (bytesOf [48 + (m : Int) % 10] ++ t).size = 0 then R.data.toList = Lib.decDigits (m / 10) else R.data.toList = (if m / 10 = 0 then [] else Lib.decDigits (m / 10)) ++ (bytesOf [48 + (m : Int) % 10] ++ t).data.toList) := Lib.hid (by
        have e := HI.out
        have ed : (bytesOf [48 + (m : Int) % 10] ++ t).data.toList = [UInt8.ofNat (48 + m % 10)] ++ t.data.toList := by
          rw [ByteArray.data_append, Array.toList_append]
          congr 1
        rw [if_neg (by omega), ed]
        have hd : Lib.decDigits m = (if m / 10 = 0 then [] else Lib.decDigits (m / 10)) ++ [UInt8.ofNat (48 + m % 10)] := by
          rw [Lib.decDigits]
          by_cases h10 : m < 10
          · rw [dif_pos h10, if_pos (by omega), show m % 10 = m by omega]; rfl
          · rw [dif_neg h10, if_neg (by omega)]
        by_cases ht0 : t.size = 0
        · rw [if_pos ht0] at e
          have et : t.data.toList = [] := List.eq_nil_of_length_eq_zero ht0
          rw [e, hd, et]; simp
        · rw [if_neg ht0, if_neg (fun h => hex ⟨h, ht0⟩)] at e
          rw [e, hd, List.append_assoc])
      clear hbz
      by_cases ht0 : t.size = 0
      · have d1 := str_empty ht0
        by_cases hmz : (0 : Int) < (m : Int)
        · go_wp2_with fail
          go_roundw
          case rel => exact ⟨m / 10, _, by omega, by rw [HZ.out]; omega, by go_num, rfl, HI2, hb.alloc hs1 _⟩
          case measure => have := HZ.out; simp [intOf, ht0]; first | omega | (split <;> omega)
        · obtain rfl : m = 0 := by omega
          have e0 : bytesOf [48 + ((0 : Nat) : Int) % 10] = bytesOf [48] := rfl
          rw [e0] at HI2 HZ
          clear hw hmz hz
          go_wp2_with fail
          go_roundw
          case rel => exact ⟨0, _, by omega, by rw [HZ.out]; omega, by go_num, rfl, HI2, hb.alloc hs1 _⟩
          case measure => have hne : ¬ bytesOf [48] = ByteArray.empty := by decide
                          simp [intOf, ht0, hne]
      · have d1 := str_some ht0
        have hmz : (0 : Int) < (m : Int) := by omega
        go_wp2_with fail
        go_roundw
        case rel => exact ⟨m / 10, _, by omega, by rw [HZ.out]; omega, by go_num, rfl, HI2, hb.alloc hs1 _⟩
        case measure => have := HZ.out; simp [intOf, ht0]; first | omega | (split <;> omega)
end

section
open Go.RowKit
set_option linter.unusedVariables false

theorem ba_assoc (a b c : ByteArray) : a ++ b ++ c = a ++ (b ++ c) := by
  apply ByteArray.ext
  simp only [ByteArray.data_append, Array.append_assoc]

theorem joinB_snoc {L : List Pc} {k : Nat} (hk : k < L.length) : (⟨(joinL (L.take (k + 1))).toArray⟩ : ByteArray) = ⟨(joinL (L.take k)).toArray⟩ ++ textP (L.getD k noPc) := by
  rw [joinL_snoc hk]
  apply ByteArray.ext
  rw [ByteArray.data_append]
  simp

theorem mayB_iff (kd : Int) (tx : ByteArray) (nm : Int) (tg : ByteArray) : mayB ⟨kd, tx, nm, tg⟩ = true ↔ 1 ≤ kd ∧ kd ≤ 3 ∧ 0 ≤ nm ∧ nm ≤ 999 ∧ (tg.size = 0 ∨ isNameB tg = true) := by
  unfold mayB; simp

theorem textP_1 (tx : ByteArray) (nm : Int) (tg : ByteArray) : textP ⟨1, tx, nm, tg⟩ = tx := rfl
theorem textP_2 (tx : ByteArray) (nm : Int) (tg : ByteArray) : textP ⟨2, tx, nm, tg⟩ = ⟨#[36]⟩ ++ tagB tg ++ ⟨#[36]⟩ := rfl
theorem textP_3 (tx : ByteArray) (nm : Int) (tg : ByteArray) : textP ⟨3, tx, nm, tg⟩ = ⟨#[36]⟩ ++ tagB tg ++ numT nm := rfl

set_option maxRecDepth 100000 in
set_option maxHeartbeats 1000000 in
theorem rjoin_any (v : Value) (L : List Pc) (w : World) (h : PcsV w v L) (hs : Small L) :
    Calls Tryd.prog 19 #[v] w fun e w' => e = .returned (.tuple #[.string (joinS L).1, .int .i64 (joinS L).2]) ∧ Below w.heap.size w w' := by
  obtain ⟨a, n, c, rfl, hn, hnc, hc, hx⟩ := h.open
  have HS := Lib.hid hs
  have hn1 : n ≤ 1000 := by rw [hn.out]; exact hs.1
  have HR : Hid (joinS L = if L.all mayB = true then (⟨(joinL L).toArray⟩, 0) else (ByteArray.empty, 1)) := Lib.hid rfl
  generalize joinS L = R at HR ⊢
  clear h hs
  go_enter Tryd.func19, Tryd.ntmps19
  go_wp2_with fail
  go_loopw [4, 5] (fun y x wr => ∃ (k : Nat) (S : ByteArray), k ≤ n ∧ x = .int .i64 k ∧ y = .string S ∧ Hid (S = ⟨(joinL (L.take k)).toArray⟩) ∧ Hid ((L.take k).all mayB = true) ∧ S.size ≤ k * 2000010 ∧ Below w.heap.size w wr) (fun _ x _ => n + 1 - (intOf x).toNat)
  case atStart => exact ⟨0, ByteArray.empty, by omega, rfl, rfl, Lib.hid rfl, Lib.hid rfl, Nat.zero_le _, Below.refl _ _⟩
  case round =>
    obtain ⟨k, S, hk, rfl, rfl, hS, hal, hlen, hb⟩ := hrel
    have hs1 := hb.size
    by_cases hlt : k < n
    · obtain ⟨b, o, rfl, c0, c1, c2, c3⟩ := hx.out k hlt
      have hblt := World.block_lt_of_cell? _ _ c0
      replace c0 := (hb.cell (p := ⟨b, o + k * 4, none⟩) hblt).trans c0
      replace c1 := (hb.cell (p := ⟨b, o + k * 4 + 1, none⟩) hblt).trans c1
      replace c2 := (hb.cell (p := ⟨b, o + k * 4 + 2, none⟩) hblt).trans c2
      replace c3 := (hb.cell (p := ⟨b, o + k * 4 + 3, none⟩) hblt).trans c3
      have hkL : k < L.length := by have := hn.out; omega
      obtain ⟨hz1, hz2⟩ := HS.out.at hkL
      have HJ := Lib.hid (joinB_snoc hkL)
      have HA := Lib.hid (all_snoc hkL)
      have HN := Lib.hid (all_not hkL)
      have hts := textP_size (L.getD k noPc)
      generalize L.getD k noPc = p at c0 c1 c2 c3 hz1 hz2 HJ HA HN hts
      obtain ⟨kd, tx, nm, tg⟩ := p
      simp only at c0 c1 c2 c3 hz1 hz2 hts
      have hnm := fun W => rname_any tg W hz2
      have HM := Lib.hid (mayB_iff kd tx nm tg)
      have HTS := Lib.hid hts
      have HNM := Lib.hid hnm
      clear hts hnm
      cases hm : mayB ⟨kd, tx, nm, tg⟩ with
      | false =>
        have HR2 : Hid (R = (ByteArray.empty, 1)) := Lib.hid (by rw [HR.out, if_neg (HN.out hm)])
        have hno : ¬ (1 ≤ kd ∧ kd ≤ 3 ∧ 0 ≤ nm ∧ nm ≤ 999 ∧ (tg.size = 0 ∨ isNameB tg = true)) := fun h => by rw [HM.out.2 h] at hm; cases hm
        have HNO := Lib.hid hno
        clear hm hno HM HTS HA HN HJ
        by_cases h0 : kd < 1
        · go_wp2_with fail
          go_ret2
          exact ⟨by rw [HR2.out]; rfl, hb.alloc hs1 _⟩
        by_cases h1 : 3 < kd
        · go_wp2_with fail
          go_ret2
          exact ⟨by rw [HR2.out]; rfl, hb.alloc hs1 _⟩
        by_cases h2 : nm < 0
        · go_wp2_with fail
          go_ret2
          exact ⟨by rw [HR2.out]; rfl, hb.alloc hs1 _⟩
        by_cases h3 : 999 < nm
        · go_wp2_with fail
          go_ret2
          exact ⟨by rw [HR2.out]; rfl, hb.alloc hs1 _⟩
        have hno := HNO.out
        have ht0 : ¬ tg.size = 0 := fun h => hno ⟨by omega, by omega, by omega, by omega, .inl h⟩
        have hti : isNameB tg = false := by cases h : isNameB tg with | false => rfl | true => exact absurd ⟨by omega, by omega, by omega, by omega, .inr h⟩ hno
        rw [hti] at HNM
        have d1 := str_some ht0
        clear hno ht0 hti
        go_wp2_with (first | (go_at_call 36; refine (HNM.out _).mono ?_; rintro e w' ⟨rfl, rfl⟩))
        go_ret2
        exact ⟨by rw [HR2.out]; rfl, hb.alloc hs1 _⟩
      | true =>
        obtain ⟨k1, k2, n0, n1, htg⟩ := HM.out.1 hm
        have HA2 : Hid ((L.take (k + 1)).all mayB = true) := Lib.hid (by rw [HA.out, hal.out, hm]; rfl)
        have htp := HTS.out hm
        have hNz := numT_size nm n0 n1
        have hD := fun W => digitsOf_any nm.toNat W (by omega)
        rw [show ((nm.toNat : Nat) : Int) = nm by omega] at hD
        have HD := Lib.hid hD
        have HB : Hid (tagB tg = if tg.size = 0 then ByteArray.empty else ⟨#[60]⟩ ++ tg ++ ⟨#[62]⟩) := Lib.hid rfl
        have HT : Hid ((kd = 1 → textP ⟨kd, tx, nm, tg⟩ = tx) ∧ (kd = 2 → textP ⟨kd, tx, nm, tg⟩ = ⟨#[36]⟩ ++ tagB tg ++ ⟨#[36]⟩) ∧ (kd = 3 → textP ⟨kd, tx, nm, tg⟩ = ⟨#[36]⟩ ++ tagB tg ++ numT nm)) := Lib.hid ⟨fun h => by subst h; rfl, fun h => by subst h; rfl, fun h => by subst h; rfl⟩
        have hkk : kd = 1 ∨ kd = 2 ∨ kd = 3 := by omega
        clear hm HM HTS HA HN hD k1 k2
        rw [← hS.out] at HJ
        generalize textP ⟨kd, tx, nm, tg⟩ = P at htp HJ HT
        generalize numT nm = N at hNz HD HT
        generalize tagB tg = T at HB HT
        have hSP : (S ++ P).size ≤ (k + 1) * 2000010 := by rw [ByteArray.size_append]; omega
        have HSP := Lib.hid hSP
        clear hSP
        by_cases h0 : tg.size = 0
        · have d1 := str_empty h0
          have HB2 : Hid (T = ByteArray.empty) := Lib.hid (by rw [HB.out, if_pos h0])
          clear HB h0 htg
          rcases hkk with hk1 | hk1 | hk1
          · have HX : Hid (S ++ P = S ++ tx) := Lib.hid (by rw [(HT.out).1 hk1])
            rw [HX.out] at HSP HJ
            subst hk1
            go_wp2_with (first | (go_at_call 36; refine (HNM.out _).mono ?_; rintro e w' ⟨rfl, rfl⟩) | (go_at_call 24; refine (HD.out _).mono ?_; rintro e w7 ⟨rfl, hb7⟩))
            go_roundw
            case rel => exact ⟨k + 1, _, by omega, by go_num, rfl, Lib.hid HJ.out.symm, HA2, HSP.out, hb.alloc hs1 _⟩
            case measure => simp [intOf]; omega
          · have HX : Hid (S ++ P = S ++ ⟨#[36]⟩ ++ ⟨#[]⟩ ++ ⟨#[36]⟩) := Lib.hid (by rw [(HT.out).2.1 hk1, HB2.out]; rw [show ByteArray.empty = (⟨#[]⟩ : ByteArray) from rfl]; simp only [ba_assoc])
            rw [HX.out] at HSP HJ
            subst hk1
            go_wp2_with (first | (go_at_call 36; refine (HNM.out _).mono ?_; rintro e w' ⟨rfl, rfl⟩) | (go_at_call 24; refine (HD.out _).mono ?_; rintro e w7 ⟨rfl, hb7⟩))
            go_roundw
            case rel => exact ⟨k + 1, _, by omega, by go_num, rfl, Lib.hid HJ.out.symm, HA2, HSP.out, hb.alloc hs1 _⟩
            case measure => simp [intOf]; omega
          · have HX : Hid (S ++ P = S ++ ⟨#[36]⟩ ++ ⟨#[]⟩ ++ N) := Lib.hid (by rw [(HT.out).2.2 hk1, HB2.out]; rw [show ByteArray.empty = (⟨#[]⟩ : ByteArray) from rfl]; simp only [ba_assoc])
            rw [HX.out] at HSP HJ
            subst hk1
            go_wp2_with (first | (go_at_call 36; refine (HNM.out _).mono ?_; rintro e w' ⟨rfl, rfl⟩) | (go_at_call 24; refine (HD.out _).mono ?_; rintro e w7 ⟨rfl, hb7⟩))
            go_roundw
            case rel => exact ⟨k + 1, _, by omega, by go_num, rfl, Lib.hid HJ.out.symm, HA2, HSP.out, (hb.alloc hs1 _).trans (hb7.mono (hb.alloc hs1 _).size)⟩
            case measure => simp [intOf]; omega
        · have d1 := str_some h0
          have hti : isNameB tg = true := by rcases htg with h | h; exact absurd h h0; exact h
          have HB2 : Hid (T = ⟨#[60]⟩ ++ tg ++ ⟨#[62]⟩) := Lib.hid (by rw [HB.out, if_neg h0])
          rw [hti] at HNM
          clear HB h0 htg hti
          rcases hkk with hk1 | hk1 | hk1
          · have HX : Hid (S ++ P = S ++ tx) := Lib.hid (by rw [(HT.out).1 hk1])
            rw [HX.out] at HSP HJ
            subst hk1
            go_wp2_with (first | (go_at_call 36; refine (HNM.out _).mono ?_; rintro e w' ⟨rfl, rfl⟩) | (go_at_call 24; refine (HD.out _).mono ?_; rintro e w7 ⟨rfl, hb7⟩))
            go_roundw
            case rel => exact ⟨k + 1, _, by omega, by go_num, rfl, Lib.hid HJ.out.symm, HA2, HSP.out, hb.alloc hs1 _⟩
            case measure => simp [intOf]; omega
          · have HX : Hid (S ++ P = S ++ ⟨#[36]⟩ ++ (⟨#[60]⟩ ++ tg ++ ⟨#[62]⟩) ++ ⟨#[36]⟩) := Lib.hid (by rw [(HT.out).2.1 hk1, HB2.out]; simp only [ba_assoc])
            rw [HX.out] at HSP HJ
            subst hk1
            go_wp2_with (first | (go_at_call 36; refine (HNM.out _).mono ?_; rintro e w' ⟨rfl, rfl⟩) | (go_at_call 24; refine (HD.out _).mono ?_; rintro e w7 ⟨rfl, hb7⟩))
            go_roundw
            case rel => exact ⟨k + 1, _, by omega, by go_num, rfl, Lib.hid HJ.out.symm, HA2, HSP.out, hb.alloc hs1 _⟩
            case measure => simp [intOf]; omega
          · have HX : Hid (S ++ P = S ++ ⟨#[36]⟩ ++ (⟨#[60]⟩ ++ tg ++ ⟨#[62]⟩) ++ N) := Lib.hid (by rw [(HT.out).2.2 hk1, HB2.out]; simp only [ba_assoc])
            rw [HX.out] at HSP HJ
            subst hk1
            go_wp2_with (first | (go_at_call 36; refine (HNM.out _).mono ?_; rintro e w' ⟨rfl, rfl⟩) | (go_at_call 24; refine (HD.out _).mono ?_; rintro e w7 ⟨rfl, hb7⟩))
            go_roundw
            case rel => exact ⟨k + 1, _, by omega, by go_num, rfl, Lib.hid HJ.out.symm, HA2, HSP.out, (hb.alloc hs1 _).trans (hb7.mono (hb.alloc hs1 _).size)⟩
            case measure => simp [intOf]; omega
    · obtain rfl : k = n := by omega
      have e1 : L.take k = L := List.take_of_length_le (by have := hn.out; omega)
      rw [e1] at hal hS
      have HR2 : Hid (R = (S, 0)) := Lib.hid (by rw [HR.out, if_pos hal.out, hS.out])
      clear e1 hal hlen
      go_wp2_with fail
      go_ret2
      exact ⟨by rw [HR2.out]; rfl, hb⟩
end

end Go.Proofs.YtmpdpgbcflogfaaDoor
