/- The walk of BodyBack. -/
import Derived.Test.YtmpdpgbcflogfaaDoorBack5
namespace Go.Proofs.YtmpdpgbcflogfaaDoor
open Go.RowKit
set_option linter.unusedVariables false

def bracedS (s : ByteArray) : ByteArray := if endS s 0 = s.size then s else ⟨#[123]⟩ ++ s ++ ⟨#[125]⟩
theorem bracedS_size (s : ByteArray) : (bracedS s).size ≤ s.size + 2 := by
  unfold bracedS; split
  · omega
  · rw [ByteArray.size_append, ByteArray.size_append]
    show 1 + s.size + 1 ≤ _; omega

set_option maxRecDepth 100000 in
theorem braced_any (s : ByteArray) (w : World) (hs : s.size ≤ 1000) :
    Calls Tryd.prog 20 #[.string s] w fun e w' => e = .returned (.string (bracedS s)) ∧ Below w.heap.size w w' := by
  have HB : Hid (bracedS s = if endS s 0 = s.size then s else ⟨#[123]⟩ ++ s ++ ⟨#[125]⟩) := Lib.hid rfl
  have HE := Lib.hid (rend_any s 0 w (by omega))
  generalize bracedS s = R at HB ⊢
  generalize endS s 0 = E at HB HE
  by_cases h : E = s.size
  · subst h
    have hR := HB.out
    rw [if_pos rfl] at hR
    subst hR
    clear HB
    go_enter Tryd.func20, Tryd.ntmps20
    go_wp2_with fail
    refine HE.out.mono ?_
    rintro e w1 ⟨rfl, hb⟩
    go_wp2_with fail
    go_ret
    exact ⟨rfl, hb⟩
  · have hR := HB.out
    rw [if_neg h] at hR
    have HR := Lib.hid hR
    clear hR HB
    go_enter Tryd.func20, Tryd.ntmps20
    go_wp2_with fail
    refine HE.out.mono ?_
    rintro e w1 ⟨rfl, hb⟩
    go_wp2_with fail
    go_ret
    exact ⟨by rw [HR.out]; rfl, hb⟩

set_option maxRecDepth 100000 in
theorem eqPieces_same (v1 v2 : Value) (L : List Pc) (w : World) (h1 : PcsV w v1 L) (h2 : PcsV w v2 L) (hL : L.length ≤ 1000) :
    Calls Tryd.prog 22 #[v1, v2] w fun e w' => e = .returned (.bool true) ∧ Below w.heap.size w w' := by
  obtain ⟨a1, n1, c1, rfl, hn1, hc1, hm1, hx1⟩ := h1.open
  obtain ⟨a2, n2, c2, rfl, hn2, hc2, hm2, hx2⟩ := h2.open
  obtain rfl : n2 = n1 := by rw [hn1.out, hn2.out]
  have hnl : n2 ≤ 1000 := by rw [hn1.out]; exact hL
  clear h1 h2 hn1 hn2
  go_enter Tryd.func22, Tryd.ntmps22
  go_wp2_with fail
  go_loopw [5] (fun x wr => ∃ k : Nat, k ≤ n2 ∧ x = .int .i64 k ∧ Below w.heap.size w wr) (fun x _ => n2 + 1 - (intOf x).toNat)
  case atStart => exact ⟨0, by omega, rfl, Below.refl _ _⟩
  case round =>
    obtain ⟨k, hk, rfl, hb⟩ := hrel
    by_cases hlt : k < n2
    · obtain ⟨b1, o1, rfl, p0, p1, p2, p3⟩ := hx1.out k hlt
      obtain ⟨b2, o2, rfl, q0, q1, q2, q3⟩ := hx2.out k hlt
      have hl1 := World.block_lt_of_cell? _ _ p0
      have hl2 := World.block_lt_of_cell? _ _ q0
      replace p0 := (hb.cell (p := ⟨b1, o1 + k * 4, none⟩) hl1).trans p0
      replace p1 := (hb.cell (p := ⟨b1, o1 + k * 4 + 1, none⟩) hl1).trans p1
      replace p2 := (hb.cell (p := ⟨b1, o1 + k * 4 + 2, none⟩) hl1).trans p2
      replace p3 := (hb.cell (p := ⟨b1, o1 + k * 4 + 3, none⟩) hl1).trans p3
      replace q0 := (hb.cell (p := ⟨b2, o2 + k * 4, none⟩) hl2).trans q0
      replace q1 := (hb.cell (p := ⟨b2, o2 + k * 4 + 1, none⟩) hl2).trans q1
      replace q2 := (hb.cell (p := ⟨b2, o2 + k * 4 + 2, none⟩) hl2).trans q2
      replace q3 := (hb.cell (p := ⟨b2, o2 + k * 4 + 3, none⟩) hl2).trans q3
      generalize L.getD k noPc = p at *
      obtain ⟨kd, tx, nm, tg⟩ := p
      simp only at p0 p1 p2 p3 q0 q1 q2 q3
      go_wp2_with fail
      go_quiet (fail)
      have hb7 : Below w.heap.size w (wr.drewN nq) := ⟨hb.os, hb.tape, hb.output, hb.size, hb.block⟩
      clear p0 p1 p2 p3 q0 q1 q2 q3 hb
      generalize wr.drewN nq = W7 at hb7 ⊢
      go_wp2_with fail
      go_roundw
      case rel => exact ⟨k + 1, by omega, by go_num, hb7⟩
      case measure => simp [intOf]; omega
    · go_wp2_with fail
      go_ret
      exact ⟨rfl, hb⟩

theorem noNought_of {s : ByteArray} (h : ∀ i, i + 1 < s.size → ¬ ((gAt s i = 36 ∨ gAt s i = 62) ∧ gAt s (i + 1) = 48)) : NoNought s := fun i hi h1 h2 => h i hi ⟨h1, h2⟩

set_option maxRecDepth 100000 in
set_option maxHeartbeats 1000000 in
theorem bodyBack_walk (s0 : ByteArray) (w : World) (hs0 : s0.size ≤ maxLen) (hE : Env w) :
    Calls Tryd.prog 5 #[.string s0] w fun e w' => e = .returned (.bool true) ∧ Below w.heap.size w w' := by
  have HE := Lib.hid hE
  clear hE
  go_enter Tryd.func5, Tryd.ntmps5
  go_wp2_with fail
  refine (bodyWakes_any _ HE.out).mono ?_
  rintro e w1 ⟨rfl, hb1⟩
  go_wp2_with fail
  have HT := Lib.hid (text_any s0 120 w1 hs0 (by omega))
  refine HT.out.mono ?_
  rintro e w2 ⟨rfl, rfl⟩
  have hts := cutT_size s0 120
  clear HT
  generalize cutT s0 120 = s1 at hts ⊢
  go_wp2_with fail
  refine (braced_any s1 _ (by omega)).mono ?_
  rintro e w2 ⟨rfl, hb2⟩
  have hsz := bracedS_size s1
  have hb3 := hb1.trans (hb2.mono hb1.size)
  clear hb1 hb2
  generalize bracedS s1 = s at hsz ⊢
  go_wp2_with fail
  refine (cut_any s w2 (HE.out.below hb3).max (by omega)).mono ?_
  intro e w3 h3
  obtain ⟨v, rfl, hv, hb4⟩ := h3.pcs
  clear h3
  have hb5 := hb3.trans (hb4.mono hb3.size)
  clear hb3 hb4
  by_cases h0 : (cutS s).2 = 0
  · have hok := h0
    obtain ⟨m1, m2, m3, m4, m5, m6⟩ := back_tells s (by omega) h0
    have HV := Lib.hid hv
    have HJ := join_any _ _ w3 HV.out (HE.out.below hb5) m2
    have hLl := m2.1
    have ht1 : (joinS (cutS s).1).1.size ≤ 100000 := Nat.le_trans m4 (by decide)
    rw [m3] at HJ
    rw [h0]
    clear m1 m2 m3 m4 h0
    obtain ⟨a, n, c, rfl, hn, hnc, hc, hx⟩ := hv.open
    clear hx hv
    generalize (joinS (cutS s).1).1 = t at *
    have HCU := fun W (hm : MaxAt W) => cut_any t W hm ht1
    generalize hL : (cutS s).1 = L at *
    have HM6 := Lib.hid m6
    have HLL := Lib.hid hLl
    have HJ := Lib.hid HJ
    have HCU := Lib.hid HCU
    have HM7 : Hid (t = s → (cutS t).1 = L ∧ (cutS t).2 = 0) := Lib.hid (fun h => by rw [h]; exact ⟨hL, hok⟩)
    clear m6 hLl ht1 hL hok
    go_wp2_with fail
    refine HJ.out.mono ?_
    rintro e w4 ⟨rfl, hb6⟩
    have hb7 := hb5.trans (hb6.mono hb5.size)
    have HV4 := Lib.hid (HV.out.below hb6)
    clear hb5 hb6 HJ HV
    go_wp2_with fail
    refine (HCU.out w4 (HE.out.below hb7).max).mono ?_
    intro e w5 h5
    obtain ⟨v2, rfl, hv2, hb8⟩ := h5.pcs
    clear h5 HCU
    generalize cutS t = CT at *
    obtain ⟨CL, CE⟩ := CT
    simp only at hv2 m5
    have hb9 := hb7.trans (hb8.mono hb7.size)
    have HV5 := Lib.hid (HV4.out.below hb8)
    have HV2 := Lib.hid hv2
    obtain ⟨a2, n2, c2, rfl, hn2, hnc2, hc2, hx2⟩ := hv2.open
    have hnn : n2 = n := by rw [hn2.out, hn.out]; exact m5
    subst hnn
    clear hx2 hv2 HV4 hb7 hb8 m5 hn hn2
    have hg : ∀ j (h : j < s.size), ((s[j]'h).toNat : Int) = gAt s j := fun j h => gAt_get s j h
    go_wp2_with fail
    go_loop [9] (fun x => ∃ k : Nat, k ≤ s.size ∧ x = .int .i64 k ∧ Hid (∀ i, i < k → i + 1 < s.size → ¬ ((gAt s i = 36 ∨ gAt s i = 62) ∧ gAt s (i + 1) = 48))) (fun x => s.size + 1 - (intOf x).toNat)
    case atStart => exact ⟨0, by omega, rfl, Lib.hid (fun i hi => absurd hi (Nat.not_lt_zero _))⟩
    case round =>
      obtain ⟨k, hk, rfl, HK⟩ := hrel
      by_cases hlt : k + 1 < s.size
      · have hgk := hg k (by omega)
        have hgk1 := hg (k + 1) hlt
        go_wp2_with fail
        all_goals first
          | (go_ret
             exact ⟨rfl, hb9⟩)
          | (go_round
             case rel => exact ⟨k + 1, by omega, by go_num, Lib.hid (fun i hi h1 => by
               by_cases hik : i = k
               · subst hik; grind
               · exact HK.out i (by omega) h1)⟩
             case measure => simp [intOf]; omega)
      · have hts2 : t = s := HM6.out (noNought_of (fun i hi => HK.out i (by omega) hi))
        obtain ⟨z1, z2⟩ := HM7.out hts2
        subst z1
        subst z2
        clear HM6 HM7 HK
        subst hts2
        go_wp2_with fail
        refine (eqPieces_same _ _ _ w5 HV5.out HV2.out HLL.out).mono ?_
        rintro e w6 ⟨rfl, hb10⟩
        have hb11 := hb9.trans (hb10.mono hb9.size)
        go_wp2_with fail
        go_ret
        exact ⟨rfl, hb11⟩
  · have hl0 : (cutS s).1 = [] := by
      unfold cutS at h0 ⊢
      split
      · rename_i h1
        rw [if_pos h1] at h0
        split
        · rfl
        · rename_i h2; rw [if_neg h2] at h0; exact absurd rfl h0
      · rfl
    have d1 : ((cutS s).2 == 0) = false := by simpa using h0
    rw [hl0] at hv
    obtain ⟨a, n, c, rfl, hn, hnc, hc, hx⟩ := hv.open
    obtain rfl : n = 0 := hn.out
    clear hx hv
    generalize (cutS s).2 = E at h0 d1 ⊢
    go_wp2_with fail
    go_ret
    exact ⟨rfl, hb5⟩

end Go.Proofs.YtmpdpgbcflogfaaDoor
