/- comb's places: the least place at which a row fits. -/
import Derived.Test.YtjeebcnjdhlcfaaDoorComb5
namespace Go.Proofs.YtjeebcnjdhlcfaaDoor
open Go.RowKit
set_option linter.unusedVariables false
set_option linter.unusedSimpArgs false

theorem PlacesV.below {w w' : World} {base p : Nat} {v : Value} {ws : List Nat} (h : PlacesV w base p v ws) (hp : p < w.heap.size) (hb : Below w.heap.size w w') : PlacesV w' base p v ws :=
  h.turn (fun b hb' => hb.block b (hb'.elim (fun e => by rw [e]; exact hp) (fun e => (h.own.lt b e).2)))

/-- is one of the first j pairs' places taken? -/
def hitB (ws : List Nat) (row : List Pr) (j c : Nat) : Bool := (row.take j).any fun q => bitAt ws (c + q.1.toNat)
theorem hit_next (ws : List Nat) (row : List Pr) (j c : Nat) (h : j < row.length) : hitB ws row (j + 1) c = (hitB ws row j c || bitAt ws (c + (row.getD j (0, 0)).1.toNat)) := by
  unfold hitB
  rw [List.take_succ_eq_append_getElem h, List.any_append, List.getD_eq_getElem?_getD, List.getElem?_eq_getElem h]
  simp
theorem hit_any (ws : List Nat) (row : List Pr) (j c : Nat) (h : hitB ws row j c = true) : ∃ q ∈ row, bitAt ws (c + q.1.toNat) = true := by
  unfold hitB at h
  rw [List.any_eq_true] at h
  obtain ⟨q, h1, h2⟩ := h
  exact ⟨q, List.mem_of_mem_take h1, h2⟩
theorem hit_none (ws : List Nat) (row : List Pr) (j c : Nat) (hj : row.length ≤ j) (h : hitB ws row j c = false) : ∀ q ∈ row, bitAt ws (c + q.1.toNat) = false := by
  unfold hitB at h
  rw [List.take_of_length_le hj, List.any_eq_false] at h
  intro q hq
  have := h q hq
  simpa using this
/-- the bits of sixty-four places -/
def HitW (ws : List Nat) (row : List Pr) (j c H : Nat) : Prop := H < 2 ^ 64 ∧ ∀ i, i < 64 → H.testBit i = hitB ws row j (c + i)
theorem HitW.zero (ws : List Nat) (row : List Pr) (c : Nat) : HitW ws row 0 c 0 := ⟨by omega, fun i _ => by simp [hitB]⟩
theorem HitW.next {ws : List Nat} (hl : ∀ y ∈ ws, y < 2 ^ 64) {row : List Pr} {j c H : Nat} (h : HitW ws row j c H) (hj : j < row.length) : HitW ws row (j + 1) c (H ||| fromW ws (c + (row.getD j (0, 0)).1.toNat)) := by
  refine ⟨Nat.or_lt_two_pow h.1 (fromW_lt hl _), fun i hi => ?_⟩
  rw [Nat.testBit_or, h.2 i hi, fromW_bit hl _ _ hi, hit_next _ _ _ _ hj]
  congr 2; omega
def allW : Nat := 18446744073709551615
theorem all_bit (i : Nat) (hi : i < 64) : allW.testBit i = true := by
  have : allW = 2 ^ 64 - 1 := by decide
  rw [this, Nat.testBit_two_pow_sub_one]; simpa using hi
theorem HitW.all {ws : List Nat} {row : List Pr} {j c : Nat} (h : HitW ws row j c allW) : ∀ i, i < 64 → ∃ q ∈ row, bitAt ws (c + i + q.1.toNat) = true := fun i hi => by
  have := h.2 i hi
  rw [all_bit i hi] at this
  exact hit_any _ _ _ _ this.symm
/-- the lowest bit that is none -/
theorem HitW.least {ws : List Nat} {row : List Pr} {j c H : Nat} (h : HitW ws row j c H) (hj : row.length ≤ j) (hH : H ≠ allW) : allW - H ≠ 0 ∧ allW - H < 18446744073709551616 ∧ Lib.ctz 64 (allW - H) < 64 ∧
    (∀ q ∈ row, bitAt ws (c + Lib.ctz 64 (allW - H) + q.1.toNat) = false) ∧ ∀ i, i < Lib.ctz 64 (allW - H) → ∃ q ∈ row, bitAt ws (c + i + q.1.toNat) = true := by
  have h1 := h.1
  have h0 : allW - H ≠ 0 := by unfold allW at *; omega
  have h2 : allW - H < 18446744073709551616 := by unfold allW; omega
  obtain ⟨c1, c2, c3⟩ := ctz_is _ h0 h2
  have hb : ∀ i, i < 64 → (allW - H).testBit i = !H.testBit i := fun i hi => by
    have e : allW - H = 2 ^ 64 - (H + 1) := by unfold allW; omega
    rw [e, Nat.testBit_two_pow_sub_succ h1]
    simp [hi]
  generalize Lib.ctz 64 (allW - H) = t at *
  refine ⟨h0, h2, c1, ?_, fun i hi => ?_⟩
  · refine hit_none _ _ _ _ hj ?_
    rw [← h.2 t c1]
    have := hb t c1
    rw [c2] at this
    simpa using this.symm
  · have := hb i (by omega)
    rw [c3 i hi] at this
    refine hit_any _ _ j _ ?_
    rw [← h.2 i (by omega)]
    simpa using this.symm
/-- behind all words nothing is taken -/
theorem bit_end (ws : List Nat) (k : Nat) (h : 64 * ws.length ≤ k) : bitAt ws k = false := by
  unfold bitAt
  rw [getD_ge _ _ _ (by omega)]
  simp

def FitPost (w : World) (ws : List Nat) (row : List Pr) (e : Ending) (w' : World) : Prop :=
  ∃ b : Nat, e = .returned (.int .i64 (b : Int)) ∧ (∀ q ∈ row, bitAt ws (b + q.1.toNat) = false) ∧ (∀ c, c < b → ∃ q ∈ row, bitAt ws (c + q.1.toNat) = true) ∧ Below w.heap.size w w'

theorem xorAll (H : Nat) (hH : H < 2 ^ 64) : bits BinOp.xor IntKind.u64 IntKind.u64.max (H : Int) = ((allW - H : Nat) : Int) := by
  have e0 : IntKind.u64.max = ((18446744073709551615 : Nat) : Int) := by decide
  rw [e0, bits_xor_u64_nat _ _ (by omega) (by omega)]
  congr 1
  apply Nat.eq_of_testBit_eq
  intro i
  have e1 : allW - H = 2 ^ 64 - (H + 1) := by unfold allW; omega
  have e2 : (18446744073709551615 : Nat) = 2 ^ 64 - 1 := by decide
  rw [e1, Nat.testBit_xor, Nat.testBit_two_pow_sub_succ hH, e2, Nat.testBit_two_pow_sub_one]
  by_cases hi : i < 64
  · simp [hi]
  · have : H.testBit i = false := Nat.testBit_lt_two_pow (Nat.lt_of_lt_of_le hH (Nat.pow_le_pow_right (by omega) (by omega)))
    simp [hi, this]
theorem orU' (a b : Nat) (ha : a < 2 ^ 64) (hb : b < 2 ^ 64) : bits .or .u64 (a : Int) (b : Int) = ((a ||| b : Nat) : Int) := orU a b ha hb

set_option maxRecDepth 100000 in
set_option maxHeartbeats 8000000 in
theorem fit_any {w : World} {base p : Nat} {v : Value} {ws : List Nat} (h : PlacesV w base p v ws) (hp : p < w.heap.size) (hl : ws.length ≤ 100000) (rv : Value) (row : List Pr) (hr : PairsV w rv row) (hm : ∀ q ∈ row, 0 ≤ q.1 ∧ q.1 ≤ 999)
    (hg : 0 < w.heap.size) (hT : TabAt 0 Lib.deBruijn64tab w) :
    Calls Tryd.prog 22 #[.pointer (some ⟨p, 0, none⟩), rv] w (FitPost w ws row) := by
  obtain ⟨a, n, c, rfl, hn, hnc, hcm, hx⟩ := hr.open
  have HP := Lib.hid h
  have HL := Lib.hid h.lt
  have HT := Lib.hid hT
  clear h hT
  go_enter Tryd.func22, Tryd.ntmps22
  go_wp2_with fail
  go_loopw [5] (fun x w1 => ∃ B : Nat, x = .int .i64 (64 * (B : Int)) ∧ B ≤ ws.length ∧ Below w.heap.size w w1 ∧ Hid (∀ c, c < 64 * B → ∃ q ∈ row, bitAt ws (c + q.1.toNat) = true)) (fun x _ => 64 * ws.length + 64 - (intOf x).toNat)
  case atStart => exact ⟨0, rfl, Nat.zero_le _, Below.refl _ _, Lib.hid (fun c hc => absurd hc (by omega))⟩
  case round =>
    obtain ⟨B, rfl, hB, hb1, hlow⟩ := hrel
    rename World => w1
    go_wp2_with fail
    go_loopw [6, 13] (fun x y w2 => ∃ j H : Nat, x = .int .u64 (H : Int) ∧ y = .int .i64 (j : Int) ∧ j ≤ n ∧ Hid (HitW ws row j (64 * B) H) ∧ Hid (H ≠ allW) ∧ Below w.heap.size w w2) (fun _ y _ => n - (intOf y).toNat)
    case atStart => exact ⟨0, 0, rfl, rfl, Nat.zero_le _, Lib.hid (HitW.zero _ _ _), Lib.hid (by decide), hb1⟩
    case round =>
      obtain ⟨j, H, rfl, rfl, hj, hH, hne, hb2⟩ := hrel
      rename World => w2
      by_cases hjn : j < n
      · have hjI : (j : Int) < (n : Int) := by omega
        obtain ⟨b1, o1, rfl, c1, c2⟩ := hx.out j hjn
        replace c1 := (hb2.cell (World.block_lt_of_cell? _ _ c1)).trans c1
        replace c2 := (hb2.cell (World.block_lt_of_cell? _ _ c2)).trans c2
        have hjl : j < row.length := by have := hn.out; omega
        have hq := hm (row.getD j (0, 0)) (by rw [List.getD_eq_getElem?_getD, List.getElem?_eq_getElem hjl]; simp)
        have hN := Lib.hid (HitW.next HL.out hH.out hjl)
        generalize row.getD j (0, 0) = q at c1 c2 hq hN
        obtain ⟨qa, qv⟩ := q
        obtain ⟨k, rfl⟩ := Int.eq_ofNat_of_zero_le hq.1
        have hk : k ≤ 999 := by have := hq.2; simp at this; omega
        simp only [Int.toNat_natCast] at c1 c2 hN
        clear hq
        have HF := Lib.hid (fun (W : World) (hW : Below w.heap.size w W) => (show Calls Tryd.prog 30 #[.pointer (some ⟨p, 0, none⟩), .int .i64 (64 * (B : Int) + (k : Int))] W fun e w' => e = .returned (.int .u64 (fromW ws (64 * B + k) : Nat)) ∧ ∃ n, w' = W.drewN n from by
          have := from_any (HP.out.below hp hW) (64 * B + k) (by omega) (by omega)
          rw [show ((64 * B + k : Nat) : Int) = 64 * (B : Int) + (k : Int) by omega] at this
          exact this))
        have HO := Lib.hid (orU H (fromW ws (64 * B + k)) hH.out.1 (fromW_lt HL.out _))
        have HZ := Lib.hid (fun (hz : ws.length ≤ B) => (show fromW ws (64 * B + k) = 0 from by
          apply Nat.eq_of_testBit_eq
          intro i
          rw [Nat.zero_testBit]
          by_cases hi : i < 64
          · rw [fromW_bit HL.out _ _ hi, bit_end _ _ (by omega)]
          · exact Nat.testBit_lt_two_pow (Nat.lt_of_lt_of_le (fromW_lt HL.out _) (Nat.pow_le_pow_right (by omega) (by omega)))))
        generalize fromW ws (64 * B + k) = F at HF HO hN HZ
        have hb3 := hb2.alloc hb2.size (.cells #[.int .i64 (k : Int), .int .i64 qv] 39)
        have hs2 := hb2.size
        have hbb : ∀ nq, Below w.heap.size w ((w2.alloc (.cells #[.int .i64 (k : Int), .int .i64 qv] 39)).drewN nq) := fun nq => ⟨hb3.os, hb3.tape, hb3.output, hb3.size, hb3.block⟩
        have HB3 := Lib.hid (And.intro hb3 hbb)
        clear hbb
        by_cases hall : H ||| F = allW
        · have hE : (bits BinOp.or IntKind.u64 (H : Int) (F : Int) == 18446744073709551615) = true := by rw [HO.out, hall]; rfl
          have hE2 : (bits BinOp.or IntKind.u64 (H : Int) (F : Int) != 18446744073709551615) = false := by rw [HO.out, hall]; rfl
          have hBl : B < ws.length := by
            rcases Nat.lt_or_ge B ws.length with h | h
            · exact h
            · exfalso
              rw [HZ.out h, Nat.or_zero] at hall
              exact hne.out hall
          have HA := Lib.hid (by have := hN.out; rw [hall] at this; exact this.all)
          clear hall
          go_wp2_with (first | (go_at_call 30; refine (HF.out _ HB3.out.1).mono ?_; rintro e w9 ⟨rfl, nq, rfl⟩))
          go_roundw
          case rel =>
            refine ⟨B + 1, by first | (congr 1; done) | (congr 1; omega), by omega, HB3.out.2 nq, Lib.hid (fun c hc => ?_)⟩
            by_cases hcB : c < 64 * B
            · exact hlow.out c hcB
            · have := HA.out (c - 64 * B) (by omega)
              rwa [show 64 * B + (c - 64 * B) = c by omega] at this
          case measure => simp [intOf]; omega
        · have hE : (bits BinOp.or IntKind.u64 (H : Int) (F : Int) == 18446744073709551615) = false := by
            rw [HO.out, beq_eq_false_iff_ne]; intro e; exact hall (by unfold allW; omega)
          have HA := Lib.hid hall
          clear hall
          go_wp2_with (first | (go_at_call 30; refine (HF.out _ HB3.out.1).mono ?_; rintro e w9 ⟨rfl, nq, rfl⟩))
          go_roundw
          case rel =>
            rw [HO.out]
            exact ⟨j + 1, _, rfl, by go_num, by omega, hN, HA, HB3.out.2 nq⟩
          case measure => simp [intOf]; omega
      · obtain rfl : j = n := by omega
        have hE : ((H : Int) != 18446744073709551615) = true := by
          rw [bne_iff_ne]; intro e; exact hne.out (by unfold allW; omega)
        obtain ⟨l1, l2, l3, l4, l5⟩ := hH.out.least (by rw [← hn.out]; exact Nat.le_refl _) hne.out
        have HX := Lib.hid (xorAll H hH.out.1)
        have hg2 : ∀ W, Below w.heap.size w W → TabAt 0 Lib.deBruijn64tab W := fun W hW i hi => (hW.cell (p := ⟨0, i, none⟩) hg).trans (HT.out i hi)
        have HC := Lib.hid (show Calls Tryd.prog 31 #[.int .u64 (bits BinOp.xor IntKind.u64 IntKind.u64.max (H : Int))] w2 fun e w' => e = .returned (.int .i64 (Lib.ctz 64 (allW - H))) ∧ w2 = w' by
          rw [HX.out]
          exact tz_any _ l2 l1 w2 (hg2 w2 hb2))
        generalize Lib.ctz 64 (allW - H) = t at *
        have HQ := Lib.hid (And.intro l4 l5)
        clear l1 l2 l4 l5 hg2
        go_wp2_with (first | (go_at_call 31; refine HC.out.mono ?_; rintro e w9 ⟨rfl, rfl⟩))
        go_ret
        refine ⟨64 * B + t, ret_int (by omega), HQ.out.1, fun c hc => ?_, hb2⟩
        by_cases hcB : c < 64 * B
        · exact hlow.out c hcB
        · have := HQ.out.2 (c - 64 * B) (by omega)
          rwa [show 64 * B + (c - 64 * B) = c by omega] at this
end Go.Proofs.YtjeebcnjdhlcfaaDoor
