/- The walk of BodyParts. -/
import Derived.Test.YtmpdpgbcflogfaaDoorParts
namespace Go.Proofs.YtmpdpgbcflogfaaDoor
open Go.RowKit
set_option linter.unusedVariables false

/-- digits that are a number -/
def DigsOf (d : ByteArray) (N : Nat) : Prop := hor d.data.toList = N ∧ 1 ≤ d.size ∧ ∀ j, j < d.size → 48 ≤ gAt d j ∧ gAt d j ≤ 57

theorem dec_digits (n : Nat) : ∀ c ∈ Lib.decDigits n, 48 ≤ c.toNat ∧ c.toNat ≤ 57 := by
  induction n using Nat.strongRecOn with
  | ind n ih =>
    intro c hc
    rw [Lib.decDigits] at hc
    split at hc
    · have e := List.mem_singleton.1 hc
      subst e
      rw [UInt8.toNat_ofNat']; omega
    · rw [List.mem_append] at hc
      rcases hc with hc | hc
      · exact ih (n / 10) (by omega) c hc
      · have e := List.mem_singleton.1 hc
        subst e
        rw [UInt8.toNat_ofNat']; omega
theorem numT_data (n : Nat) : (numT n).data.toList = Lib.decDigits n := by unfold numT Lib.itoa; rw [if_neg (by omega)]; rfl
theorem nDigits_small5 (n : Nat) (h : n < 100000) : 1 ≤ Lib.nDigits n ∧ Lib.nDigits n ≤ 5 := by
  rw [Lib.nDigits]; split
  · omega
  rw [Lib.nDigits]; split
  · omega
  rw [Lib.nDigits]; split
  · omega
  rw [Lib.nDigits]; split
  · omega
  rw [Lib.nDigits]; split
  · omega
  · omega
theorem numT_len (n : Nat) : (numT n).size = Lib.nDigits n := by
  have : (numT n).data.toList.length = (numT n).size := rfl
  rw [← this, numT_data, Lib.decDigits_length]
theorem digsOf_num (n : Nat) (h : n < 100000) : DigsOf (numT n) n := by
  refine ⟨by rw [numT_data]; exact hor_dec n, by rw [numT_len]; exact (nDigits_small5 n h).1, fun j hj => ?_⟩
  have hs : (numT n).data.toList.length = (numT n).size := rfl
  rw [← gAt_at _ j (by omega)]
  have := dec_digits n ((numT n).data.toList[j]'(by omega)) (by rw [← numT_data]; exact List.getElem_mem _)
  omega
theorem digsOf_nought {d : ByteArray} {N : Nat} (h : DigsOf d N) : DigsOf (⟨#[48]⟩ ++ d) N := by
  obtain ⟨h1, h2, h3⟩ := h
  have hz : (⟨#[48]⟩ ++ d : ByteArray).size = d.size + 1 := by rw [ByteArray.size_append]; show 1 + d.size = _; omega
  refine ⟨?_, by omega, fun j hj => ?_⟩
  · rw [ByteArray.data_append, Array.toList_append]
    show hor (48 :: d.data.toList) = N
    rw [hor_nought, h1]
  · by_cases h0 : j = 0
    · subst h0
      rw [gAt_left _ _ 0 (by decide)]; decide
    · rw [gAt_right _ _ j (j - 1) (by show j = 1 + (j - 1); omega)]
      exact h3 _ (by omega)

def partsS (nm d : ByteArray) : ByteArray := ⟨#[123, 36]⟩ ++ nm ++ d ++ ⟨#[32, 125]⟩
theorem partsS_size (nm d : ByteArray) : (partsS nm d).size = 2 + nm.size + d.size + 2 := by
  unfold partsS; rw [ByteArray.size_append, ByteArray.size_append, ByteArray.size_append]; rfl

theorem parts_mk {nm d : ByteArray} {N : Nat} (hd : DigsOf d N) (hn : nm = ⟨#[]⟩ ∨ nm = ⟨#[60, 118, 62]⟩) : Parts (partsS nm d).size (gAt (partsS nm d)) nm.size d.size := by
  obtain ⟨h1, h2, h3⟩ := hd
  have hz := partsS_size nm d
  have hA : (⟨#[123, 36]⟩ ++ nm : ByteArray).size = 2 + nm.size := by rw [ByteArray.size_append]; rfl
  have hB : (⟨#[123, 36]⟩ ++ nm ++ d : ByteArray).size = 2 + nm.size + d.size := by rw [ByteArray.size_append, hA]
  have l1 : ∀ j, j < 2 → gAt (partsS nm d) j = gAt ⟨#[123, 36]⟩ j := fun j hj => by
    unfold partsS
    rw [gAt_left _ _ j (by omega), gAt_left _ _ j (by omega), gAt_left _ _ j (by show j < 2; omega)]
  have l2 : ∀ j, j < nm.size → gAt (partsS nm d) (2 + j) = gAt nm j := fun j hj => by
    unfold partsS
    rw [gAt_left _ _ _ (by omega), gAt_left _ _ _ (by omega), gAt_right _ _ (2 + j) j rfl]
  have l3 : ∀ j, j < d.size → gAt (partsS nm d) (2 + nm.size + j) = gAt d j := fun j hj => by
    unfold partsS
    rw [gAt_left _ _ _ (by omega), gAt_right _ _ (2 + nm.size + j) j (by omega)]
  have l4 : ∀ j, gAt (partsS nm d) (2 + nm.size + d.size + j) = gAt ⟨#[32, 125]⟩ j := fun j => by
    unfold partsS
    rw [gAt_right _ _ (2 + nm.size + d.size + j) j (by omega)]
  refine ⟨hz, (l1 0 (by omega)).trans (by decide), (l1 1 (by omega)).trans (by decide), ?_, fun j hj => by rw [l3 j hj]; exact h3 j hj, h2, (l4 0).trans (by decide), (l4 1).trans (by decide)⟩
  rcases hn with rfl | rfl
  · exact .inl rfl
  · exact .inr ⟨rfl, (l2 0 (by decide)).trans (by decide), (l2 1 (by decide)).trans (by decide), (l2 2 (by decide)).trans (by decide)⟩

theorem parts_num {nm d : ByteArray} {N : Nat} (hd : DigsOf d N) (h3 : d.size ≤ 3) : numW (gAt (partsS nm d)) (2 + nm.size) d.size = N := by
  obtain ⟨h1, h2, hg⟩ := hd
  have hA : (⟨#[123, 36]⟩ ++ nm : ByteArray).size = 2 + nm.size := by rw [ByteArray.size_append]; rfl
  have hB : (⟨#[123, 36]⟩ ++ nm ++ d : ByteArray).size = 2 + nm.size + d.size := by rw [ByteArray.size_append, hA]
  have hl : d.data.toList.length = d.size := rfl
  have := (numW_hor (gAt (partsS nm d)) (2 + nm.size) d.data.toList (by omega) (fun j hj => by
    have l3 : gAt (partsS nm d) (2 + nm.size + j) = gAt d j := by
      unfold partsS
      rw [gAt_left _ _ _ (by omega), gAt_right _ _ (2 + nm.size + j) j (by omega)]
    rw [l3]
    exact ⟨(hg j (by omega)).1, (hg j (by omega)).2, rfl⟩) d.size (by omega)).1
  rw [this, ← hl, List.take_length, h1]

theorem parts_tag {d : ByteArray} : (partsS ⟨#[60, 118, 62]⟩ d).extract 3 4 = ⟨#[118]⟩ := by
  apply ByteArray.ext
  apply Array.toList_inj.1
  rw [Lib.extract_data]
  unfold partsS
  simp [ByteArray.data_append]

def tagN (t : Bool) : ByteArray := if t = true then ⟨#[60, 118, 62]⟩ else ⟨#[]⟩
theorem tagN_or (t : Bool) : tagN t = ⟨#[]⟩ ∨ tagN t = ⟨#[60, 118, 62]⟩ := by cases t; exact .inl rfl; exact .inr rfl
theorem tagN_size (t : Bool) : (tagN t).size ≤ 3 := by cases t <;> decide

/-- what Cut tells of such a text -/
theorem parts_cut {d : ByteArray} {N : Nat} (t : Bool) (hd : DigsOf d N) : (3 < d.size → (cutS (partsS (tagN t) d)).1.length = 0 ∧ (cutS (partsS (tagN t) d)).2 = 6) ∧
    (d.size ≤ 3 → (cutS (partsS (tagN t) d)).1.length = 3 ∧ (cutS (partsS (tagN t) d)).2 = 0 ∧ ((cutS (partsS (tagN t) d)).1.getD 1 noPc) = ⟨3, ByteArray.empty, N, if t = true then ⟨#[118]⟩ else ByteArray.empty⟩) := by
  have h := (parts_mk hd (tagN_or t)).cutS
  refine ⟨fun h3 => ?_, fun h3 => ?_⟩
  · rw [h, if_pos h3]; exact ⟨rfl, rfl⟩
  · rw [h, if_neg (by omega), parts_num hd h3]
    refine ⟨rfl, rfl, ?_⟩
    cases t with
    | false => rfl
    | true =>
      show (⟨3, ByteArray.empty, (N : Int), if (tagN true).size = 0 then ByteArray.empty else (partsS (tagN true) d).extract 3 4⟩ : Pc) = _
      rw [if_neg (by decide), show tagN true = ⟨#[60, 118, 62]⟩ from rfl, parts_tag]
      rfl

set_option maxRecDepth 100000 in
set_option maxHeartbeats 1000000 in
theorem bodyParts_walk (n0 : Int) (t : Bool) (z : Int) (w : World) (hn : (Lit.int .i64 n0).wf = true) (hz : (Lit.int .i64 z).wf = true) (hE : Env w) :
    Calls Tryd.prog 7 #[.int .i64 n0, .bool t, .int .i64 z] w fun e w' => e = .returned (.bool true) ∧ Below w.heap.size w w' := by
  have HE := Lib.hid hE
  have hW1 := fun W => within_any n0 20000 W hn (by omega) (by omega)
  have hW2 := fun W => within_any z 3 W hz (by omega) (by omega)
  have hm := Int.emod_nonneg n0 (show (20000 : Int) ≠ 0 by omega)
  have hm2 := Int.emod_lt_of_pos n0 (show (0 : Int) < 20000 by omega)
  have hq := Int.emod_nonneg z (show (3 : Int) ≠ 0 by omega)
  have hq2 := Int.emod_lt_of_pos z (show (0 : Int) < 3 by omega)
  push_cast at hW1 hW2
  generalize n0 % 20000 = m at hW1 hm hm2
  generalize z % 3 = q at hW2 hq hq2
  obtain ⟨N, rfl⟩ := Int.eq_ofNat_of_zero_le hm
  have HW1 := Lib.hid hW1
  have HW2 := Lib.hid hW2
  have HD0 := Lib.hid (digsOf_num N (by omega))
  have hnl := nDigits_small5 N (by omega)
  have hnz := numT_len N
  clear hE hW1 hW2
  go_enter Tryd.func7, Tryd.ntmps7
  go_wp2_with fail
  refine (bodyWakes_any _ HE.out).mono ?_
  rintro e w1 ⟨rfl, hb1⟩
  go_wp2_with fail
  refine (HW1.out _).mono ?_
  rintro e w2 ⟨rfl, rfl⟩
  go_wp2_with fail
  refine (digitsOf_any N _ (by omega)).mono ?_
  rintro e w3 ⟨rfl, hb2⟩
  have hb3 := hb1.trans (hb2.mono hb1.size)
  have hsz : (numT N).size ≤ 5 := by omega
  clear hnz hnl hb1 hb2
  generalize numT N = d0 at HD0 hsz ⊢
  go_wp2_with fail
  go_loop [7, 8] (fun x y => ∃ (k : Nat) (d : ByteArray), k ≤ 3 ∧ y = .int .i64 k ∧ x = .string d ∧ Hid (DigsOf d N) ∧ d.size ≤ 5 + k) (fun _ y => 4 - (intOf y).toNat)
  case atStart => exact ⟨0, d0, by omega, rfl, rfl, HD0, by omega⟩
  case round =>
    obtain ⟨k, d, hk, rfl, rfl, HD, hds⟩ := hrel
    by_cases hlt : (k : Int) < q
    · have hz : (⟨#[48]⟩ ++ d : ByteArray).size = d.size + 1 := by rw [ByteArray.size_append]; show 1 + d.size = _; omega
      have HZ := Lib.hid hz
      clear hz
      go_wp2_with fail
      refine (HW2.out _).mono ?_
      rintro e w5 ⟨rfl, rfl⟩
      go_wp2_with fail
      go_round
      case rel => exact ⟨k + 1, _, by omega, by go_num, rfl, Lib.hid (digsOf_nought HD.out), by rw [HZ.out]; omega⟩
      case measure => simp [intOf]; omega
    · cases t with
      | true =>
        have hpz := partsS_size (tagN true) d
        have htz := tagN_size true
        have HPC := Lib.hid (parts_cut true HD.out)
        have HCA := Lib.hid (cut_any (partsS (tagN true) d) w3 (HE.out.below hb3).max (by omega))
        have htt : (⟨#[118]⟩ : ByteArray).toList = [118] := Lib.toList_data _
        have hte : ByteArray.empty.toList = [] := Lib.toList_data _
        clear hpz htz
        generalize hCS : cutS (partsS (tagN true) d) = CS at HPC
        have HCS := Lib.hid hCS
        clear hCS
        go_wp2_with fail
        refine (HW2.out _).mono ?_
        rintro e w5 ⟨rfl, rfl⟩
        go_wp2_with fail
        refine HCA.out.mono ?_
        intro e w6 h6
        obtain ⟨v, rfl, hv, hb6⟩ := h6.pcs
        rw [HCS.out] at hv ⊢
        clear h6
        obtain ⟨CL, CE⟩ := CS
        obtain ⟨a, n, c, rfl, hnl, hnc, hc, hx⟩ := hv.open
        have hb7 := hb3.trans (hb6.mono hb3.size)
        clear hv HCA
        by_cases h3 : 3 < d.size
        · obtain ⟨c1, c2⟩ := HPC.out.1 h3
          simp only at c1 c2 hnl
          have hn0 : n = 0 := hnl.out.trans c1
          subst hn0; subst c2
          clear hx HPC HCS hnl
          go_wp2_with fail
          go_ret
          exact ⟨rfl, hb7⟩
        · obtain ⟨c1, c2, c3⟩ := HPC.out.2 (by omega)
          simp only at c1 c2 c3 hnl
          have hn0 : n = 3 := hnl.out.trans c1
          subst hn0; subst c2
          obtain ⟨b, o, rfl, e0, e1, e2, e3⟩ := hx.out 1 (by omega)
          simp only at e0 e2 e3
          rw [c3] at e0 e2 e3
          simp at e0 e2 e3
          clear hx HPC HCS hnl c3 e1 c1
          go_wp2_with fail
          go_ret
          exact ⟨rfl, hb7⟩
      | false =>
        have hpz := partsS_size (tagN false) d
        have htz := tagN_size false
        have HPC := Lib.hid (parts_cut false HD.out)
        have HCA := Lib.hid (cut_any (partsS (tagN false) d) w3 (HE.out.below hb3).max (by omega))
        have htt : (⟨#[118]⟩ : ByteArray).toList = [118] := Lib.toList_data _
        have hte : ByteArray.empty.toList = [] := Lib.toList_data _
        clear hpz htz
        generalize hCS : cutS (partsS (tagN false) d) = CS at HPC
        have HCS := Lib.hid hCS
        clear hCS
        go_wp2_with fail
        refine (HW2.out _).mono ?_
        rintro e w5 ⟨rfl, rfl⟩
        go_wp2_with fail
        refine HCA.out.mono ?_
        intro e w6 h6
        obtain ⟨v, rfl, hv, hb6⟩ := h6.pcs
        rw [HCS.out] at hv ⊢
        clear h6
        obtain ⟨CL, CE⟩ := CS
        obtain ⟨a, n, c, rfl, hnl, hnc, hc, hx⟩ := hv.open
        have hb7 := hb3.trans (hb6.mono hb3.size)
        clear hv HCA
        by_cases h3 : 3 < d.size
        · obtain ⟨c1, c2⟩ := HPC.out.1 h3
          simp only at c1 c2 hnl
          have hn0 : n = 0 := hnl.out.trans c1
          subst hn0; subst c2
          clear hx HPC HCS hnl
          go_wp2_with fail
          go_ret
          exact ⟨rfl, hb7⟩
        · obtain ⟨c1, c2, c3⟩ := HPC.out.2 (by omega)
          simp only at c1 c2 c3 hnl
          have hn0 : n = 3 := hnl.out.trans c1
          subst hn0; subst c2
          obtain ⟨b, o, rfl, e0, e1, e2, e3⟩ := hx.out 1 (by omega)
          simp only at e0 e2 e3
          rw [c3] at e0 e2 e3
          simp at e0 e2 e3
          clear hx HPC HCS hnl c3 e1 c1
          go_wp2_with fail
          go_ret
          exact ⟨rfl, hb7⟩

end Go.Proofs.YtmpdpgbcflogfaaDoor
