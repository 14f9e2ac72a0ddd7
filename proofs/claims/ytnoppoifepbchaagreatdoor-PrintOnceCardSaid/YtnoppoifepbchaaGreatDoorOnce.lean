/- What was read of any text, printed and read once more: the law PrintOnce walked. -/
import Derived.Test.YtnoppoifepbchaaGreatDoorOnceP
import Derived.Test.YtnoppoifepbchaaGreatDoorSame4
import Derived.Test.YtnoppoifepbchaaGreatDoorSame1
import Derived.IntWalk
import Derived.Outline
import Derived.Deep.DeepCutAuto
import Derived.Deep.Cut
namespace Go.Proofs.YtnoppoifepbchaaGreatDoor

open Go.RowKit
set_option linter.unusedVariables false
set_option linter.unusedSimpArgs false

def InI8 (l : List Int) : Prop := ∀ x ∈ l, -9223372036854775808 ≤ x ∧ x ≤ 9223372036854775807
theorem wf_in8 {l : List Int} (h : InI8 l) (k : Nat) : (Lit.int .i64 (l.getD k 0)).wf = true := by
 have h2 : -9223372036854775808 ≤ l.getD k 0 ∧ l.getD k 0 ≤ 9223372036854775807 := by
  rw [List.getD_eq_getElem?_getD]
  by_cases hk : k < l.length
  · rw [List.getElem?_eq_getElem hk]; exact h _ (List.getElem_mem hk)
  · rw [List.getElem?_eq_none (by omega)]; decide
 simpa [Lit.wf, IntKind.min, IntKind.max, IntKind.signed, IntKind.bits] using h2
theorem far_cell {w W : World} (h : Below w.heap.size w W) {p : Addr} {u : Value} (hu : w.cell? p = some u) : W.cell? p = some u := (h.cell (World.block_lt_of_cell? _ _ hu)).trans hu
theorem far_firm {S : Nat → Prop} {w1 w2 : World} {Q : World → Prop} (h : Firm S w1 Q) (hb : Below w1.heap.size w1 w2) : Q w2 := (h.below hb).self
theorem tells_text {P : Program} {f : FuncId} {args : Array Value} {l : List UInt8} {w : World} (h : Calls P f args w (TellsTx l w)) : Calls P f args w fun e w' => e = .returned (.string ⟨l.toArray⟩) ∧ Below w.heap.size w w' :=
 h.mono fun e w' ⟨S, he, hS, hb⟩ => ⟨by rw [he, show S = ⟨l.toArray⟩ from ba_of (by simpa using hS)], hb⟩

abbrev onceW : Array Value := #[.string ⟨#[97]⟩, .string ⟨#[98]⟩, .string ⟨#[39, 120, 39]⟩, .string ⟨#[58]⟩, .string ⟨#[59]⟩, .string ⟨#[124]⟩, .string ⟨#[123, 36, 49, 125]⟩, .string ⟨#[37, 112, 114, 101, 99]⟩, .string ⟨#[97, 32, 58]⟩, .string ⟨#[124, 32, 39, 121, 39]⟩]

set_option maxRecDepth 100000 in
set_option maxHeartbeats 40000000 in
theorem printOnce_any (s : ByteArray) (v : Value) (l : List Int) {w : World} (hs : s.size ≤ maxLen) (hvi : IntsV w v l ∧ InI8 l) (hE : LexEnv w) :
  Calls Tryz.prog 7 #[.string s, v] w fun e w' => e = .returned (.bool true) ∧ Below w.heap.size w w' := by
 obtain ⟨hv, hi⟩ := hvi
 have HW := Lib.hid (wakes8_any w hE.env)
 have HM : Hid (∀ W, Below w.heap.size w W → LexEnv W) := Lib.hid (fun W hb => hE.below hb)
 have HT : Hid (∀ W, Calls Tryz.prog 10 #[.string s, .int .i64 400] W fun e w' => e = .returned (.string (cutT s 400)) ∧ W = w') := Lib.hid (fun W => text_any s 400 W hs (by omega))
 have hz := cutT_size s 400
 generalize cutT s 400 = u0 at HT hz
 have HI := Lib.hid hv
 have HF := Lib.hid (fun k => wf_in8 hi k)
 have HN : Hid (∀ (x : Int), (Lit.int .i64 x).wf = true → ∀ W, ∃ q : Nat, q < 10 ∧ Calls Tryz.prog 11 #[.int .i64 x, .int .i64 10] W fun e w' => e = .returned (.int .i64 (q : Int)) ∧ W = w') := Lib.hid (fun x hx W => by
  obtain ⟨q, hq⟩ : ∃ q : Nat, (q : Int) = x % ((10 : Nat) : Int) := ⟨(x % 10).toNat, by omega⟩
  refine ⟨q, by omega, ?_⟩
  rw [hq]
  exact within_any x 10 W hx (by omega) (by omega))
 clear hE hi hs
 go_enter Tryz.func7, Tryz.ntmps7
 go_wp2_with (first
  | (go_at_call 15; refine HW.out.mono ?_; rintro e w1 ⟨rfl, hb1⟩; have hI1 := Lib.hid (HI.out.below hb1)))
 have hs1 := hb1.size
 have hX : ∀ j, j < 10 → ∃ y : ByteArray, y.size ≤ 5 ∧ (w1.alloc (.cells onceW 9)).cell? ⟨w1.heap.size, j, none⟩ = some (.string y) := by
  intro j hj
  match j, hj with
  | 0, _ => exact ⟨_, by decide, cell_top w1 _ _ _ _ rfl⟩
  | 1, _ => exact ⟨_, by decide, cell_top w1 _ _ _ _ rfl⟩
  | 2, _ => exact ⟨_, by decide, cell_top w1 _ _ _ _ rfl⟩
  | 3, _ => exact ⟨_, by decide, cell_top w1 _ _ _ _ rfl⟩
  | 4, _ => exact ⟨_, by decide, cell_top w1 _ _ _ _ rfl⟩
  | 5, _ => exact ⟨_, by decide, cell_top w1 _ _ _ _ rfl⟩
  | 6, _ => exact ⟨_, by decide, cell_top w1 _ _ _ _ rfl⟩
  | 7, _ => exact ⟨_, by decide, cell_top w1 _ _ _ _ rfl⟩
  | 8, _ => exact ⟨_, by decide, cell_top w1 _ _ _ _ rfl⟩
  | 9, _ => exact ⟨_, by decide, cell_top w1 _ _ _ _ rfl⟩
  | j + 10, h => exact absurd h (by omega)
 have hb2 := hb1.alloc hs1 (.cells onceW 9)
 have hI2 := HI.out.below hb2
 generalize w1.alloc (.cells onceW 9) = w2 at *
 generalize w1.heap.size = B at *
 clear hI1 HI hv hb1 HW hs1
 obtain ⟨a, n, c, rfl, hnl, hnc, hc, hx⟩ := hI2.open
 have HX := Lib.hid hX
 clear hX hI2
 go_loop [6, 7] (fun x y => ∃ (k : Nat) (t : ByteArray), k ≤ n ∧ k ≤ 25 ∧ t.size ≤ 6 + 6 * k ∧ x = .string t ∧ y = .int .i64 k) (fun x y => n - (intOf y).toNat)
 case atStart => exact ⟨0, ⟨#[37, 37, 32, 97, 32, 58]⟩, Nat.zero_le _, Nat.zero_le _, by decide, rfl, rfl⟩
 case round =>
  obtain ⟨k, t, hk, hk2, ht, rfl, rfl⟩ := hrel
  by_cases hlt : k < n ∧ k < 25
  · obtain ⟨hlt, hlt2⟩ := hlt
    obtain ⟨b, off, ha, hcell⟩ := hx.out k hlt
    obtain ⟨q, hq, hcl⟩ := HN.out _ (HF.out k) w2
    have HCL := Lib.hid hcl
    obtain ⟨y, hy, hyc⟩ := HX.out q hq
    subst ha
    generalize l.getD k 0 = x at hcell HCL
    have hsum : t.size + y.size ≤ 1000 := by omega
    have hsz0 : (t ++ (⟨#[32]⟩ : ByteArray)).size = t.size + 1 := ByteArray.size_append
    have hsz2 : (t ++ (⟨#[32]⟩ : ByteArray) ++ y).size = t.size + 1 + y.size := by rw [ByteArray.size_append, hsz0]
    clear hcl HN HM hx HX HT hz
    go_wp2_with (first | (go_at_call 11; refine (HCL.out).mono ?_; rintro e w' ⟨rfl, rfl⟩))
    go_round
    case rel => exact ⟨k + 1, t ++ (⟨#[32]⟩ : ByteArray) ++ y, by omega, by omega, by omega, rfl, by go_num⟩
    case measure => simp [intOf]; omega
  · have ht2 : t.size ≤ 400 := by omega
    clear hx HX HN HF ht
    by_cases hlt3 : k < n
    all_goals
     have hb3 := hb2.alloc hb2.size (.cells #[.string u0, .string t] 9)
     go_wp2_with (first | (go_at_call 10; (with_reducible refine (HT.out _).mono ?_); rintro e w9 ⟨rfl, rfl⟩))
     have HY : Hid (∀ W, Below (w2.alloc (.cells #[.string u0, .string t] 9)).heap.size (w2.alloc (.cells #[.string u0, .string t] 9)) W → ∀ k, k < 2 → ∃ u : ByteArray, u.size ≤ 400 ∧ W.cell? ⟨w2.heap.size, k, none⟩ = some (.string u)) := Lib.hid (fun W h k hk => by
      match k, hk with
      | 0, _ => exact ⟨u0, hz, far_cell h (cell_top w2 _ _ _ 0 rfl)⟩
      | 1, _ => exact ⟨t, ht2, far_cell h (cell_top w2 _ _ _ 1 rfl)⟩)
     generalize (w2.alloc (.cells #[.string u0, .string t] 9)) = w3 at hb3 HY ⊢
     generalize w2.heap.size = B2 at HY ⊢
     clear HT hb2 hnl hnc hc hz ht2 hk2 hk hlt hlt3
     go_loopw [9] (fun y wr => ∃ k : Nat, k ≤ 2 ∧ y = .int .i64 k ∧ Below w3.heap.size w3 wr) (fun y wr => 2 - (intOf y).toNat)
     case atStart => exact ⟨0, Nat.zero_le _, rfl, Below.refl _ _⟩
     case round =>
      obtain ⟨k, hk, rfl, hbr⟩ := hrel
      by_cases hlt : k < 2
      · obtain ⟨u, hu, huc⟩ := HY.out wr hbr k hlt
        have hbw := hb3.trans (hbr.mono hb3.size)
        have HL := Lib.hid (readA_any u wr (by omega) (HM.out _ hbw))
        have HF := Lib.hid (fun x p (h : readT u = (x, 0, p)) => once_facts hu h)
        unfold ReadGo at HL
        generalize readT u = R at HL HF
        obtain ⟨so, e, p⟩ := R
        simp only at HL
        have i1 : (k : Int) < 2 := by omega
        clear HY hu
        go_upto_region 14 with (first | (go_at_call 19; refine HL.out.mono ?_; rintro r w4 ⟨d, g, n1, c1, n2, c2, S1, rfl, hF1, hS1, hb4⟩))
        have hb5 : Below w4.heap.size w4 ((w4.alloc (.cells #[.string so.pro, .slice d n1 c1, .slice g n2 c2, .string so.tail] 36)).alloc (.cells #[.int .i64 e, .int .i64 p, .string ByteArray.empty] 49)) := ((Below.refl w4.heap.size w4).alloc (Nat.le_refl _) (.cells #[.string so.pro, .slice d n1 c1, .slice g n2 c2, .string so.tail] 36)).alloc (by simp) (.cells #[.int .i64 e, .int .i64 p, .string ByteArray.empty] 49)
        have HC : Hid (∀ W, Below ((w4.alloc (.cells #[.string so.pro, .slice d n1 c1, .slice g n2 c2, .string so.tail] 36)).alloc (.cells #[.int .i64 e, .int .i64 p, .string ByteArray.empty] 49)).heap.size ((w4.alloc (.cells #[.string so.pro, .slice d n1 c1, .slice g n2 c2, .string so.tail] 36)).alloc (.cells #[.int .i64 e, .int .i64 p, .string ByteArray.empty] 49)) W → (∀ i u, (#[.string so.pro, .slice d n1 c1, .slice g n2 c2, .string so.tail] : Array Value)[i]? = some u → W.cell? ⟨w4.heap.size, i, none⟩ = some u) ∧ (∀ i u, (#[.int .i64 e, .int .i64 p, .string ByteArray.empty] : Array Value)[i]? = some u → W.cell? ⟨w4.heap.size + 1, i, none⟩ = some u)) := Lib.hid (fun W h => boxes2 h)
        have HV0 : Hid (∀ W, Below w4.heap.size w4 W → SoV W (.agg #[.string so.pro, .slice d n1 c1, .slice g n2 c2, .string so.tail]) so) := Lib.hid (fun W h => far_firm hF1 h)
        have HV : Hid (∀ W, Below ((w4.alloc (.cells #[.string so.pro, .slice d n1 c1, .slice g n2 c2, .string so.tail] 36)).alloc (.cells #[.int .i64 e, .int .i64 p, .string ByteArray.empty] 49)).heap.size ((w4.alloc (.cells #[.string so.pro, .slice d n1 c1, .slice g n2 c2, .string so.tail] 36)).alloc (.cells #[.int .i64 e, .int .i64 p, .string ByteArray.empty] 49)) W → SoV W (.agg #[.string so.pro, .slice d n1 c1, .slice g n2 c2, .string so.tail]) so) := Lib.hid (fun W h => HV0.out W (hb5.trans (h.mono hb5.size)))
        have hbq : Below w3.heap.size w3 _ := (hbr.trans (hb4.mono hbr.size)).trans (hb5.mono (hbr.trans (hb4.mono hbr.size)).size)
        generalize ((w4.alloc (.cells #[.string so.pro, .slice d n1 c1, .slice g n2 c2, .string so.tail] 36)).alloc (.cells #[.int .i64 e, .int .i64 p, .string ByteArray.empty] 49)) = w5 at hb5 HC HV hbq ⊢
        generalize w4.heap.size = B4 at HC ⊢
        have x0 := (HC.out w5 (Below.refl _ _)).1 0 _ rfl
        have x1 := (HC.out w5 (Below.refl _ _)).1 1 _ rfl
        have x2 := (HC.out w5 (Below.refl _ _)).1 2 _ rfl
        have x3 := (HC.out w5 (Below.refl _ _)).1 3 _ rfl
        have y0 := (HC.out w5 (Below.refl _ _)).2 0 _ rfl
        have hbw5 := hb3.trans (hbq.mono hb3.size)
        clear hF1 hS1 HL HV0 hb4 hb5 huc hbr
        by_cases he : e = 0
        · subst he
          obtain ⟨hS, hFw, hne, hlen, hback⟩ := HF.out so p rfl
          have HX1 := Lib.hid (tells_text (ptext_any _ so w5 (HV.out w5 (Below.refl _ _)) hS hFw (HM.out _ hbw5).env))
          have d1 : (⟨(soT so).toArray⟩ : ByteArray).toList.isEmpty = false := by
           rw [Lib.toList_data]
           simpa [List.isEmpty_iff] using hne
          have d2 : ((⟨(soT so).toArray⟩ : ByteArray).toList == (⟨(soT so).toArray⟩ : ByteArray).toList) = true := by simp
          have hlX : (⟨(soT so).toArray⟩ : ByteArray).size ≤ 140737488355328 := hlen
          have HB := Lib.hid hback
          have HT2 : Hid (∀ y : So, soT y = soT so → (⟨(soT y).toArray⟩ : ByteArray) = ⟨(soT so).toArray⟩) := Lib.hid (fun y h => by rw [h])
          clear hback hne hlen HF
          generalize (⟨(soT so).toArray⟩ : ByteArray) = X at HX1 d1 d2 hlX HB HT2
          generalize soT so = TX at HB HT2
          go_upto_region 18 with (first | (go_at_call 18; refine HX1.out.mono ?_; rintro r w6 ⟨rfl, hb6⟩))
          have hb36 := hbq.trans (hb6.mono hbq.size)
          have hbw6 := hb3.trans (hb36.mono hb3.size)
          clear x0 x1 x2 x3 y0 HX1
          by_cases hsz : X.size ≤ 4000
          · obtain ⟨y, hy, hsame, htext, hSy, hFy⟩ := HB.out hsz
            have HL2 := Lib.hid (readA_any X w6 (by omega) (HM.out _ hbw6))
            rw [hy] at HL2
            unfold ReadGo at HL2
            simp only at HL2
            clear HB hy
            go_upto_region 19 with (first | (go_at_call 19; go_loud (refine HL2.out.mono ?_); rintro r w7 ⟨dd, gg, m1, k1, m2, k2, S2, rfl, hF2, hS2, hb7⟩))
            have hb8 : Below w7.heap.size w7 ((w7.alloc (.cells #[.string y.pro, .slice dd m1 k1, .slice gg m2 k2, .string y.tail] 36)).alloc (.cells #[.int .i64 0, .int .i64 0, .string ByteArray.empty] 49)) := ((Below.refl w7.heap.size w7).alloc (Nat.le_refl _) (.cells #[.string y.pro, .slice dd m1 k1, .slice gg m2 k2, .string y.tail] 36)).alloc (by simp) (.cells #[.int .i64 0, .int .i64 0, .string ByteArray.empty] 49)
            have HC2 : Hid (∀ W, Below ((w7.alloc (.cells #[.string y.pro, .slice dd m1 k1, .slice gg m2 k2, .string y.tail] 36)).alloc (.cells #[.int .i64 0, .int .i64 0, .string ByteArray.empty] 49)).heap.size ((w7.alloc (.cells #[.string y.pro, .slice dd m1 k1, .slice gg m2 k2, .string y.tail] 36)).alloc (.cells #[.int .i64 0, .int .i64 0, .string ByteArray.empty] 49)) W → (∀ i u, (#[.string y.pro, .slice dd m1 k1, .slice gg m2 k2, .string y.tail] : Array Value)[i]? = some u → W.cell? ⟨w7.heap.size, i, none⟩ = some u) ∧ (∀ i u, (#[.int .i64 0, .int .i64 0, .string ByteArray.empty] : Array Value)[i]? = some u → W.cell? ⟨w7.heap.size + 1, i, none⟩ = some u)) := Lib.hid (fun W h => boxes2 h)
            have HV2 : Hid (∀ W, Below w7.heap.size w7 W → SoV W (.agg #[.string y.pro, .slice dd m1 k1, .slice gg m2 k2, .string y.tail]) y) := Lib.hid (fun W h => far_firm hF2 h)
            have hb67 := hb6.trans (hb7.mono hb6.size)
            have hb58 : Below w5.heap.size w5 _ := hb67.trans (hb8.mono hb67.size)
            have HV3 : Hid (∀ W, Below ((w7.alloc (.cells #[.string y.pro, .slice dd m1 k1, .slice gg m2 k2, .string y.tail] 36)).alloc (.cells #[.int .i64 0, .int .i64 0, .string ByteArray.empty] 49)).heap.size ((w7.alloc (.cells #[.string y.pro, .slice dd m1 k1, .slice gg m2 k2, .string y.tail] 36)).alloc (.cells #[.int .i64 0, .int .i64 0, .string ByteArray.empty] 49)) W → SoV W (.agg #[.string y.pro, .slice dd m1 k1, .slice gg m2 k2, .string y.tail]) y) := Lib.hid (fun W h => HV2.out W (hb8.trans (h.mono hb8.size)))
            generalize ((w7.alloc (.cells #[.string y.pro, .slice dd m1 k1, .slice gg m2 k2, .string y.tail] 36)).alloc (.cells #[.int .i64 0, .int .i64 0, .string ByteArray.empty] 49)) = w8 at hb58 HC2 HV3 hb8 ⊢
            generalize w7.heap.size = B7 at HC2 ⊢
            have hb38 := hbq.trans (hb58.mono hbq.size)
            have hbw8 := hb3.trans (hb38.mono hb3.size)
            have HE8 := HM.out _ hbw8
            have hv1 := HV.out w8 hb58
            have hv2 := HV3.out w8 (Below.refl _ _)
            have HS1 := Lib.hid (fun W (h : Below w8.heap.size w8 W) => psame_any _ _ so y W (hv1.below h) (hv2.below h))
            rw [hsame] at HS1
            have HX2 := Lib.hid (fun W (h : Below w8.heap.size w8 W) => tells_text (ptext_any _ y W (hv2.below h) hSy hFy (HE8.below h).env))
            rw [HT2.out y htext] at HX2
            have u1 := (HC.out w8 hb58).1 0 _ rfl
            have u2 := (HC.out w8 hb58).1 1 _ rfl
            have u3 := (HC.out w8 hb58).1 2 _ rfl
            have u4 := (HC.out w8 hb58).1 3 _ rfl
            have z0 := (HC2.out w8 (Below.refl _ _)).1 0 _ rfl
            have z1 := (HC2.out w8 (Below.refl _ _)).1 1 _ rfl
            have z2 := (HC2.out w8 (Below.refl _ _)).1 2 _ rfl
            have z3 := (HC2.out w8 (Below.refl _ _)).1 3 _ rfl
            have z4 := (HC2.out w8 (Below.refl _ _)).2 0 _ rfl
            have HCz := HC2
            clear hF2 hS2 HL2 HV2 HV3 hb7 hb8 hb67 hv1 hv2 HE8 HT2 HC HC2 HV hb6
            go_wp2_with (first
             | (go_at_call 21; (with_reducible refine (HS1.out _ (Below.refl _ _)).mono ?_); rintro e V1 ⟨rfl, hv1⟩; have q0 := (HCz.out _ hv1).1 0 _ rfl; have q1 := (HCz.out _ hv1).1 1 _ rfl; have q2 := (HCz.out _ hv1).1 2 _ rfl; have q3 := (HCz.out _ hv1).1 3 _ rfl)
             | (go_at_call 18; (with_reducible refine (HX2.out _ hv1).mono ?_); rintro e V2 ⟨rfl, hv2⟩))
            have hz := hv1.trans (hv2.mono hv1.size)
            go_round
            case rel => exact ⟨k + 1, by omega, by go_num, hb38.trans (hz.mono hb38.size)⟩
            case measure => simp [intOf]; omega
          · have HL2 := Lib.hid (readA_any X w6 (by omega) (HM.out _ hbw6))
            unfold ReadGo at HL2
            generalize readT X = R2 at HL2
            obtain ⟨y, e2, p2⟩ := R2
            simp only at HL2
            clear HB
            go_upto_region 19 with (first | (go_at_call 19; go_loud (refine HL2.out.mono ?_); rintro r w7 ⟨dd, gg, m1, k1, m2, k2, S2, rfl, hF2, hS2, hb7⟩))
            have hb8 : Below w7.heap.size w7 ((w7.alloc (.cells #[.string y.pro, .slice dd m1 k1, .slice gg m2 k2, .string y.tail] 36)).alloc (.cells #[.int .i64 e2, .int .i64 p2, .string ByteArray.empty] 49)) := ((Below.refl w7.heap.size w7).alloc (Nat.le_refl _) (.cells #[.string y.pro, .slice dd m1 k1, .slice gg m2 k2, .string y.tail] 36)).alloc (by simp) (.cells #[.int .i64 e2, .int .i64 p2, .string ByteArray.empty] 49)
            have hb67 := hb6.trans (hb7.mono hb6.size)
            have hb58 : Below w5.heap.size w5 _ := hb67.trans (hb8.mono hb67.size)
            generalize ((w7.alloc (.cells #[.string y.pro, .slice dd m1 k1, .slice gg m2 k2, .string y.tail] 36)).alloc (.cells #[.int .i64 e2, .int .i64 p2, .string ByteArray.empty] 49)) = w8 at hb58 hb8 ⊢
            generalize w7.heap.size = B7
            have hb38 := hbq.trans (hb58.mono hbq.size)
            clear hF2 hS2 HL2 hb7 hb8 hb67 HT2 HC HV hb6
            have hz := Below.refl w8.heap.size w8
            go_wp2_with fail
            go_round
            case rel => exact ⟨k + 1, by omega, by go_num, hb38.trans (hz.mono hb38.size)⟩
            case measure => simp [intOf]; omega
        · have he2 : (e != 0) = true := by simpa using he
          go_wp2_with fail
          go_round
          case rel => exact ⟨k + 1, by omega, by go_num, hbq⟩
          case measure => simp [intOf]; omega
      · obtain rfl : k = 2 := by omega
        go_wp2_with fail
        go_ret
        exact ⟨rfl, hb3.trans (hbr.mono hb3.size)⟩
end Go.Proofs.YtnoppoifepbchaaGreatDoor
