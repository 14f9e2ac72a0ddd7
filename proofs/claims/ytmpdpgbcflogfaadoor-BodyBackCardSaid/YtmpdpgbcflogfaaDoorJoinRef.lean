/- The document's Join; the law on it. -/
import Derived.Test.YtmpdpgbcflogfaaDoorNum
namespace Go.Proofs.YtmpdpgbcflogfaaDoor
open Go.RowKit
set_option linter.unusedVariables false

theorem ba_assoc (a b c : ByteArray) : a ++ b ++ c = a ++ (b ++ c) := by
  apply ByteArray.ext
  simp only [ByteArray.data_append, Array.append_assoc]

theorem joinB_snoc {L : List Pc} {k : Nat} (hk : k < L.length) : (⟨(joinL (L.take (k + 1))).toArray⟩ : ByteArray) = ⟨(joinL (L.take k)).toArray⟩ ++ textP (L.getD k noPc) := by
  rw [joinL_snoc hk]
  apply ByteArray.ext
  rw [ByteArray.data_append]
  simp

theorem mayB_iff (kd : Int) (tx : ByteArray) (nm : Int) (tg : ByteArray) : mayB ⟨kd, tx, nm, tg⟩ = true ↔ 1 ≤ kd ∧ kd ≤ 3 ∧ 0 ≤ nm ∧ nm ≤ 999 ∧ (tg.size = 0 ∨ isNameB tg = true) := by
  unfold mayB; simp

theorem textP_1 (tx : ByteArray) (nm : Int) (tg : ByteArray) : textP ⟨1, tx, nm, tg⟩ = tx := rfl
theorem textP_2 (tx : ByteArray) (nm : Int) (tg : ByteArray) : textP ⟨2, tx, nm, tg⟩ = ⟨#[36]⟩ ++ tagB tg ++ ⟨#[36]⟩ := rfl
theorem textP_3 (tx : ByteArray) (nm : Int) (tg : ByteArray) : textP ⟨3, tx, nm, tg⟩ = ⟨#[36]⟩ ++ tagB tg ++ numT nm := rfl

set_option maxRecDepth 100000 in
set_option maxHeartbeats 1000000 in
theorem rjoin_any (v : Value) (L : List Pc) (w : World) (h : PcsV w v L) (hs : Small L) :
    Calls Tryd.prog 19 #[v] w fun e w' => e = .returned (.tuple #[.string (joinS L).1, .int .i64 (joinS L).2]) ∧ Below w.heap.size w w' := by
  obtain ⟨a, n, c, rfl, hn, hnc, hc, hx⟩ := h.open
  have HS := Lib.hid hs
  have hn1 : n ≤ 1000 := by rw [hn.out]; exact hs.1
  have HR : Hid (joinS L = if L.all mayB = true then (⟨(joinL L).toArray⟩, 0) else (ByteArray.empty, 1)) := Lib.hid rfl
  generalize joinS L = R at HR ⊢
  clear h hs
  go_enter Tryd.func19, Tryd.ntmps19
  go_wp2_with fail
  go_loopw [4, 5] (fun y x wr => ∃ (k : Nat) (S : ByteArray), k ≤ n ∧ x = .int .i64 k ∧ y = .string S ∧ Hid (S = ⟨(joinL (L.take k)).toArray⟩) ∧ Hid ((L.take k).all mayB = true) ∧ S.size ≤ k * 2000010 ∧ Below w.heap.size w wr) (fun _ x _ => n + 1 - (intOf x).toNat)
  case atStart => exact ⟨0, ByteArray.empty, by omega, rfl, rfl, Lib.hid rfl, Lib.hid rfl, Nat.zero_le _, Below.refl _ _⟩
  case round =>
    obtain ⟨k, S, hk, rfl, rfl, hS, hal, hlen, hb⟩ := hrel
    have hs1 := hb.size
    by_cases hlt : k < n
    · obtain ⟨b, o, rfl, c0, c1, c2, c3⟩ := hx.out k hlt
      have hblt := World.block_lt_of_cell? _ _ c0
      replace c0 := (hb.cell (p := ⟨b, o + k * 4, none⟩) hblt).trans c0
      replace c1 := (hb.cell (p := ⟨b, o + k * 4 + 1, none⟩) hblt).trans c1
      replace c2 := (hb.cell (p := ⟨b, o + k * 4 + 2, none⟩) hblt).trans c2
      replace c3 := (hb.cell (p := ⟨b, o + k * 4 + 3, none⟩) hblt).trans c3
      have hkL : k < L.length := by have := hn.out; omega
      obtain ⟨hz1, hz2⟩ := HS.out.at hkL
      have HJ := Lib.hid (joinB_snoc hkL)
      have HA := Lib.hid (all_snoc hkL)
      have HN := Lib.hid (all_not hkL)
      have hts := textP_size (L.getD k noPc)
      generalize L.getD k noPc = p at c0 c1 c2 c3 hz1 hz2 HJ HA HN hts
      obtain ⟨kd, tx, nm, tg⟩ := p
      simp only at c0 c1 c2 c3 hz1 hz2 hts
      have hnm := fun W => rname_any tg W hz2
      have HM := Lib.hid (mayB_iff kd tx nm tg)
      have HTS := Lib.hid hts
      have HNM := Lib.hid hnm
      clear hts hnm
      cases hm : mayB ⟨kd, tx, nm, tg⟩ with
      | false =>
        have HR2 : Hid (R = (ByteArray.empty, 1)) := Lib.hid (by rw [HR.out, if_neg (HN.out hm)])
        have hno : ¬ (1 ≤ kd ∧ kd ≤ 3 ∧ 0 ≤ nm ∧ nm ≤ 999 ∧ (tg.size = 0 ∨ isNameB tg = true)) := fun h => by rw [HM.out.2 h] at hm; cases hm
        have HNO := Lib.hid hno
        clear hm hno HM HTS HA HN HJ
        by_cases h0 : kd < 1
        · go_wp2_with fail
          go_ret2
          exact ⟨by rw [HR2.out]; rfl, hb.alloc hs1 _⟩
        by_cases h1 : 3 < kd
        · go_wp2_with fail
          go_ret2
          exact ⟨by rw [HR2.out]; rfl, hb.alloc hs1 _⟩
        by_cases h2 : nm < 0
        · go_wp2_with fail
          go_ret2
          exact ⟨by rw [HR2.out]; rfl, hb.alloc hs1 _⟩
        by_cases h3 : 999 < nm
        · go_wp2_with fail
          go_ret2
          exact ⟨by rw [HR2.out]; rfl, hb.alloc hs1 _⟩
        have hno := HNO.out
        have ht0 : ¬ tg.size = 0 := fun h => hno ⟨by omega, by omega, by omega, by omega, .inl h⟩
        have hti : isNameB tg = false := by cases h : isNameB tg with | false => rfl | true => exact absurd ⟨by omega, by omega, by omega, by omega, .inr h⟩ hno
        rw [hti] at HNM
        have d1 := str_some ht0
        clear hno ht0 hti
        go_wp2_with (first | (go_at_call 36; refine (HNM.out _).mono ?_; rintro e w' ⟨rfl, rfl⟩))
        go_ret2
        exact ⟨by rw [HR2.out]; rfl, hb.alloc hs1 _⟩
      | true =>
        obtain ⟨k1, k2, n0, n1, htg⟩ := HM.out.1 hm
        have HA2 : Hid ((L.take (k + 1)).all mayB = true) := Lib.hid (by rw [HA.out, hal.out, hm]; rfl)
        have htp := HTS.out hm
        have hNz := numT_size nm n0 n1
        have hD := fun W => digitsOf_any nm.toNat W (by omega)
        rw [show ((nm.toNat : Nat) : Int) = nm by omega] at hD
        have HD := Lib.hid hD
        have HB : Hid (tagB tg = if tg.size = 0 then ByteArray.empty else ⟨#[60]⟩ ++ tg ++ ⟨#[62]⟩) := Lib.hid rfl
        have HT : Hid ((kd = 1 → textP ⟨kd, tx, nm, tg⟩ = tx) ∧ (kd = 2 → textP ⟨kd, tx, nm, tg⟩ = ⟨#[36]⟩ ++ tagB tg ++ ⟨#[36]⟩) ∧ (kd = 3 → textP ⟨kd, tx, nm, tg⟩ = ⟨#[36]⟩ ++ tagB tg ++ numT nm)) := Lib.hid ⟨fun h => by subst h; rfl, fun h => by subst h; rfl, fun h => by subst h; rfl⟩
        have hkk : kd = 1 ∨ kd = 2 ∨ kd = 3 := by omega
        clear hm HM HTS HA HN hD k1 k2
        rw [← hS.out] at HJ
        generalize textP ⟨kd, tx, nm, tg⟩ = P at htp HJ HT
        generalize numT nm = N at hNz HD HT
        generalize tagB tg = T at HB HT
        have hSP : (S ++ P).size ≤ (k + 1) * 2000010 := by rw [ByteArray.size_append]; omega
        have HSP := Lib.hid hSP
        clear hSP
        by_cases h0 : tg.size = 0
        · have d1 := str_empty h0
          have HB2 : Hid (T = ByteArray.empty) := Lib.hid (by rw [HB.out, if_pos h0])
          clear HB h0 htg
          rcases hkk with hk1 | hk1 | hk1
          · have HX : Hid (S ++ P = S ++ tx) := Lib.hid (by rw [(HT.out).1 hk1])
            rw [HX.out] at HSP HJ
            subst hk1
            go_wp2_with (first | (go_at_call 36; refine (HNM.out _).mono ?_; rintro e w' ⟨rfl, rfl⟩) | (go_at_call 24; refine (HD.out _).mono ?_; rintro e w7 ⟨rfl, hb7⟩))
            go_roundw
            case rel => exact ⟨k + 1, _, by omega, by go_num, rfl, Lib.hid HJ.out.symm, HA2, HSP.out, hb.alloc hs1 _⟩
            case measure => simp [intOf]; omega
          · have HX : Hid (S ++ P = S ++ ⟨#[36]⟩ ++ ⟨#[]⟩ ++ ⟨#[36]⟩) := Lib.hid (by rw [(HT.out).2.1 hk1, HB2.out]; rw [show ByteArray.empty = (⟨#[]⟩ : ByteArray) from rfl]; simp only [ba_assoc])
            rw [HX.out] at HSP HJ
            subst hk1
            go_wp2_with (first | (go_at_call 36; refine (HNM.out _).mono ?_; rintro e w' ⟨rfl, rfl⟩) | (go_at_call 24; refine (HD.out _).mono ?_; rintro e w7 ⟨rfl, hb7⟩))
            go_roundw
            case rel => exact ⟨k + 1, _, by omega, by go_num, rfl, Lib.hid HJ.out.symm, HA2, HSP.out, hb.alloc hs1 _⟩
            case measure => simp [intOf]; omega
          · have HX : Hid (S ++ P = S ++ ⟨#[36]⟩ ++ ⟨#[]⟩ ++ N) := Lib.hid (by rw [(HT.out).2.2 hk1, HB2.out]; rw [show ByteArray.empty = (⟨#[]⟩ : ByteArray) from rfl]; simp only [ba_assoc])
            rw [HX.out] at HSP HJ
            subst hk1
            go_wp2_with (first | (go_at_call 36; refine (HNM.out _).mono ?_; rintro e w' ⟨rfl, rfl⟩) | (go_at_call 24; refine (HD.out _).mono ?_; rintro e w7 ⟨rfl, hb7⟩))
            go_roundw
            case rel => exact ⟨k + 1, _, by omega, by go_num, rfl, Lib.hid HJ.out.symm, HA2, HSP.out, (hb.alloc hs1 _).trans (hb7.mono (hb.alloc hs1 _).size)⟩
            case measure => simp [intOf]; omega
        · have d1 := str_some h0
          have hti : isNameB tg = true := by rcases htg with h | h; exact absurd h h0; exact h
          have HB2 : Hid (T = ⟨#[60]⟩ ++ tg ++ ⟨#[62]⟩) := Lib.hid (by rw [HB.out, if_neg h0])
          rw [hti] at HNM
          clear HB h0 htg hti
          rcases hkk with hk1 | hk1 | hk1
          · have HX : Hid (S ++ P = S ++ tx) := Lib.hid (by rw [(HT.out).1 hk1])
            rw [HX.out] at HSP HJ
            subst hk1
            go_wp2_with (first | (go_at_call 36; refine (HNM.out _).mono ?_; rintro e w' ⟨rfl, rfl⟩) | (go_at_call 24; refine (HD.out _).mono ?_; rintro e w7 ⟨rfl, hb7⟩))
            go_roundw
            case rel => exact ⟨k + 1, _, by omega, by go_num, rfl, Lib.hid HJ.out.symm, HA2, HSP.out, hb.alloc hs1 _⟩
            case measure => simp [intOf]; omega
          · have HX : Hid (S ++ P = S ++ ⟨#[36]⟩ ++ (⟨#[60]⟩ ++ tg ++ ⟨#[62]⟩) ++ ⟨#[36]⟩) := Lib.hid (by rw [(HT.out).2.1 hk1, HB2.out]; simp only [ba_assoc])
            rw [HX.out] at HSP HJ
            subst hk1
            go_wp2_with (first | (go_at_call 36; refine (HNM.out _).mono ?_; rintro e w' ⟨rfl, rfl⟩) | (go_at_call 24; refine (HD.out _).mono ?_; rintro e w7 ⟨rfl, hb7⟩))
            go_roundw
            case rel => exact ⟨k + 1, _, by omega, by go_num, rfl, Lib.hid HJ.out.symm, HA2, HSP.out, hb.alloc hs1 _⟩
            case measure => simp [intOf]; omega
          · have HX : Hid (S ++ P = S ++ ⟨#[36]⟩ ++ (⟨#[60]⟩ ++ tg ++ ⟨#[62]⟩) ++ N) := Lib.hid (by rw [(HT.out).2.2 hk1, HB2.out]; simp only [ba_assoc])
            rw [HX.out] at HSP HJ
            subst hk1
            go_wp2_with (first | (go_at_call 36; refine (HNM.out _).mono ?_; rintro e w' ⟨rfl, rfl⟩) | (go_at_call 24; refine (HD.out _).mono ?_; rintro e w7 ⟨rfl, hb7⟩))
            go_roundw
            case rel => exact ⟨k + 1, _, by omega, by go_num, rfl, Lib.hid HJ.out.symm, HA2, HSP.out, (hb.alloc hs1 _).trans (hb7.mono (hb.alloc hs1 _).size)⟩
            case measure => simp [intOf]; omega
    · obtain rfl : k = n := by omega
      have e1 : L.take k = L := List.take_of_length_le (by have := hn.out; omega)
      rw [e1] at hal hS
      have HR2 : Hid (R = (S, 0)) := Lib.hid (by rw [HR.out, if_pos hal.out, hS.out])
      clear e1 hal hlen
      go_wp2_with fail
      go_ret2
      exact ⟨by rw [HR2.out]; rfl, hb⟩

end Go.Proofs.YtmpdpgbcflogfaaDoor
