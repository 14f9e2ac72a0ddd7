/- A rule may end with a semicolon or not: the law ReadRules walked. -/
import Derived.Test.YtnoppoifepbchaaDoorRulZ
import Derived.Test.YtnoppoifepbchaaDoorShB
import Derived.IntWalk
import Derived.Test.YtnoppoifepbchaaDoorOnly
import Derived.Outline
import Derived.Deep.DeepCutAuto
import Derived.Deep.Cut
namespace Go.Proofs.YtnoppoifepbchaaDoor
open Go.RowKit
set_option linter.unusedVariables false
set_option linter.unusedSimpArgs false

/-- a slice of bools -/
def BoolsV (w : World) (v : Value) (l : List Bool) : Prop := CellsV w v l.length (l.map Value.bool)
theorem BoolsV.open {w : World} {v : Value} {l : List Bool} (h : BoolsV w v l) : ∃ a n c, v = .slice a n c ∧ Hid (n = l.length) ∧ n ≤ c ∧ c ≤ 9223372036854775807 ∧
    Hid (∀ i, i < n → ∃ b off, a = some ⟨b, off, none⟩ ∧ w.cell? ⟨b, off + i, none⟩ = some (.bool (l.getD i false))) := by
  obtain ⟨a, c, hv, hn, hc, _, hx⟩ := h
  refine ⟨a, _, c, hv, Lib.hid rfl, hn, hc, Lib.hid (fun i hi => ?_)⟩
  obtain ⟨b, off, ha, hcell⟩ := hx i (by simpa using hi)
  refine ⟨b, off, ha, hcell.trans ?_⟩
  rw [List.getD_eq_getElem?_getD, List.getD_eq_getElem?_getD, List.getElem?_map, List.getElem?_eq_getElem hi]
  rfl
theorem cell_far {w W : World} (h : Below w.heap.size w W) {p : Addr} {u : Value} (hu : w.cell? p = some u) : W.cell? p = some u := (h.cell (World.block_lt_of_cell? _ _ hu)).trans hu
theorem firm_far {S : Nat → Prop} {w1 w2 : World} {Q : World → Prop} (h : Firm S w1 Q) (hb : Below w1.heap.size w1 w2) : Q w2 := (h.below hb).self
theorem one_dig : ∀ j : Fin 8, (numT (j.val : Int)).size = 1 := by decide +kernel
/-- which rules end with a semicolon -/
def endB (l : List Bool) (i : Nat) : Bool := decide (i < l.length) && l.getD i false
theorem rS_size (f : Nat → Bool) : ∀ k, k ≤ 8 → (rS f k).size ≤ 2 + 15 * k
  | 0, _ => by show 2 ≤ _; omega
  | k + 1, hk => by
    have h1 := rS_size f k (by omega)
    have h2 := one_dig ⟨k, by omega⟩
    have h3 : rA.size = 2 := rfl
    have h4 : rB.size = 11 := rfl
    have h5 : (⟨#[59]⟩ : ByteArray).size = 1 := rfl
    simp only at h2
    unfold rS
    split
    · simp only [ByteArray.size_append]; omega
    · simp only [ByteArray.size_append]; omega

theorem boxes2' {w : World} {A B : Array Value} {T U : TypeId} {W : World} (hW : Below ((w.alloc (.cells A T)).alloc (.cells B U)).heap.size ((w.alloc (.cells A T)).alloc (.cells B U)) W) :
    (∀ i u, A[i]? = some u → W.cell? ⟨w.heap.size, i, none⟩ = some u) ∧ (∀ i u, B[i]? = some u → W.cell? ⟨w.heap.size + 1, i, none⟩ = some u) := by
  refine ⟨fun i u hu => ?_, fun i u hu => ?_⟩
  · rw [hW.cell (p := ⟨w.heap.size, i, none⟩) (by simp; omega), World.cell?_alloc_past _ _ _ (by simp), World.cell?_alloc_at _ _ _ _ rfl]; exact hu
  · rw [hW.cell (p := ⟨w.heap.size + 1, i, none⟩) (by simp), World.cell?_alloc_at _ _ _ _ (by simp)]; exact hu
theorem getD_of {α : Type} {l : List α} {k : Nat} {x y : α} (h : l[k]? = some x) : l.getD k y = x := by rw [List.getD_eq_getElem?_getD, h]; rfl
/-- what a rule's cells hold -/
theorem rule_at {W : World} {g : Option Addr} {n2 c2 k : Nat} {rules : List Rl} (hR : RlsV W (.slice g n2 c2) rules) (hk : k < n2) (hok : rlOk k (rules.getD k noRl) = true) :
    ∃ b o b2 o2 b3 o3 c3 pc0 pc1 : Nat, ∃ pa0 : Option Addr, ∃ pos : Int, g = some ⟨b, o, none⟩ ∧ 2 ≤ c3 ∧ c3 ≤ 9223372036854775807 ∧ W.cell? ⟨b, o + k * 3, none⟩ = some (.string (⟨#[97]⟩ ++ numT (k : Int))) ∧ W.cell? ⟨b, o + k * 3 + 1, none⟩ = some (.slice (some ⟨b2, o2, none⟩) 2 c3) ∧ W.cell? ⟨b, o + k * 3 + 2, none⟩ = some (.int .i64 pos) ∧
      W.cell? ⟨b2, o2, none⟩ = some (.slice pa0 2 pc0) ∧ W.cell? ⟨b2, o2 + 6, none⟩ = some (.slice (some ⟨b3, o3, none⟩) 1 pc1) ∧ W.cell? ⟨b3, o3, none⟩ = some (.string ⟨#[99]⟩) := by
  obtain ⟨a1, m1, k1, e1, f1, _, _, x1⟩ := hR.open
  cases e1
  obtain ⟨b, o, r, av, rfl, er, hA, r0, r1, r2⟩ := x1.out k hk
  rw [getD_of er] at hok
  unfold rlOk at hok
  simp only [Bool.and_eq_true, beq_iff_eq] at hok
  obtain ⟨h1, h2, h3, h4, h5⟩ := hok
  obtain ⟨a2, m2, k2, rfl, f2, l2, l3, x2⟩ := hA.open
  have hm2 : m2 = 2 := f2.out.trans h2
  subst hm2
  obtain ⟨b2, o2, p0, v0, rfl, ep0, hP0, s0, _⟩ := x2.out 0 (by omega)
  obtain ⟨b2', o2', p1, v1, e2, ep1, hP1, s1, _⟩ := x2.out 1 (by omega)
  cases e2
  rw [getD_of ep0] at h3
  rw [getD_of ep1] at h4 h5
  obtain ⟨a3, m3, k3, rfl, f3, _, _, _⟩ := hP0.open
  have hm3 : m3 = 2 := f3.out.trans h3
  subst hm3
  obtain ⟨a4, m4, k4, rfl, f4, _, _, x4⟩ := hP1.open
  have hm4 : m4 = 1 := f4.out.trans h4
  subst hm4
  obtain ⟨b3, o3, pt, rfl, ept, t0, _⟩ := x4.out 0 (by omega)
  rw [getD_of ept] at h5
  have q1 : r.left = ⟨#[97]⟩ ++ numT (k : Int) := ByteArray.ext (Array.toList_inj.1 (by rw [h1]; simp))
  have q2 : pt.sym.name = ⟨#[99]⟩ := ByteArray.ext (Array.toList_inj.1 h5)
  exact ⟨b, o, b2, o2, b3, o3, k2, k3, k4, a3, r.pos, rfl, l2, l3, q1 ▸ r0, r1, r2, by simpa using s0, by simpa using s1, by rw [← q2]; simpa using t0⟩

set_option maxRecDepth 100000 in
set_option maxHeartbeats 8000000 in
theorem readRules_any (n0 : Int) (v : Value) (l : List Bool) {w : World} (hn : (Lit.int .i64 n0).wf = true) (hv : BoolsV w v l) (hE : LexEnv w) :
    Calls Tryd.prog 3 #[.int .i64 n0, v] w fun e w' => e = .returned (.bool true) ∧ Below w.heap.size w w' := by
  have HW := Lib.hid (Sh.wakes7_any w hE.env.max)
  have HM : Hid (∀ W, Below w.heap.size w W → LexEnv W) := Lib.hid (fun W hb => hE.below hb)
  obtain ⟨q, hq⟩ : ∃ q : Nat, (q : Int) = n0 % ((8 : Nat) : Int) := ⟨(n0 % 8).toNat, by omega⟩
  have hq8 : q < 8 := by omega
  have HN : Hid (∀ W, Calls Tryd.prog 9 #[.int .i64 n0, .int .i64 8] W fun e w' => e = .returned (.int .i64 (q : Int)) ∧ W = w') := Lib.hid (fun W => by rw [hq]; exact within_any n0 8 W hn (by omega) (by omega))
  have HD : Hid (∀ (k : Nat), k < 8 → ∀ W, Calls Tryd.prog 10 #[.int .i64 (k : Int)] W fun e w' => e = .returned (.string (numT (k : Int))) ∧ Below W.heap.size W w') := Lib.hid (fun k hk W => digitsOf_any k W (by omega))
  have HO := Lib.hid (fun k (hk : k < 8) => one_dig ⟨k, hk⟩)
  have HS := Lib.hid (fun k (hk : k ≤ 8) => rS_size (endB l) k hk)
  clear hE hq
  obtain ⟨a, n, c, rfl, hnl, hnc, hc, hx⟩ := hv.open
  clear hv
  go_enter Tryd.func3, Tryd.ntmps3
  go_wp2_with (first
    | (go_at_call 8; refine HW.out.mono ?_; rintro e w1 ⟨rfl, hb1⟩)
    | (go_at_call 9; refine (HN.out _).mono ?_; rintro e w8 ⟨rfl, rfl⟩))
  clear HW HN
  go_loopw [5, 6] (fun x y wr => ∃ k : Nat, k ≤ q + 1 ∧ x = .string (rS (endB l) k) ∧ y = .int .i64 k ∧ Below w.heap.size w wr) (fun x y wr => q + 1 - (intOf y).toNat)
  case atStart => exact ⟨0, Nat.zero_le _, rfl, rfl, hb1⟩
  case round =>
    obtain ⟨k, hk, rfl, rfl, hbr⟩ := hrel
    have hkq := hk
    have ht := HS.out k (by omega)
    have HX : Hid (rS (endB l) (k + 1) = if endB l k = true then rS (endB l) k ++ rA ++ numT k ++ rB ++ ⟨#[59]⟩ else rS (endB l) k ++ rA ++ numT k ++ rB) := Lib.hid rfl
    by_cases hlt : k < q + 1
    · have hD := Lib.hid (HD.out k (by omega))
      have h1 := HO.out k (by omega)
      generalize hd : numT (k : Int) = d at hD h1 HX
      generalize rS (endB l) k = t at ht HX ⊢
      have s1 : (t ++ (⟨#[32, 97]⟩ : ByteArray)).size = t.size + 2 := ByteArray.size_append
      have s2 : (t ++ (⟨#[32, 97]⟩ : ByteArray) ++ d).size = t.size + 2 + d.size := by rw [ByteArray.size_append, s1]
      have s3 : (t ++ (⟨#[32, 97]⟩ : ByteArray) ++ d ++ (⟨#[58, 32, 98, 32, 39, 120, 39, 32, 124, 32, 99]⟩ : ByteArray)).size = t.size + 2 + d.size + 11 := by rw [ByteArray.size_append, s2]; rfl
      have i1 : (k : Int) < (1 : Int) + (q : Int) := by omega
      by_cases hin : k < n
      · obtain ⟨b, off, rfl, hcell⟩ := hx.out k hin
        have HCl : Hid (∀ W, Below w.heap.size w W → W.cell? ⟨b, off + k, none⟩ = some (.bool (l.getD k false))) := Lib.hid (fun W h => cell_far h hcell)
        have he : endB l k = l.getD k false := by unfold endB; rw [decide_eq_true (by have := hnl.out; omega)]; rfl
        rw [he] at HX
        have i2 : (k : Int) < (n : Int) := by omega
        generalize l.getD k false = bl at HX HCl
        clear hx hcell HD HO HS HM he
        cases bl with
        | false =>
          go_wp2_with (first | (go_at_call 10; refine (hD.out _).mono ?_; rintro e w4 ⟨rfl, hb4⟩; have hb5 := hbr.trans (hb4.mono hbr.size); have hcl := HCl.out _ hb5))
          go_round
          case rel => exact ⟨k + 1, by omega, by rw [HX.out]; rfl, by go_num, hb5⟩
          case measure => simp [intOf]; omega
        | true =>
          go_wp2_with (first | (go_at_call 10; refine (hD.out _).mono ?_; rintro e w4 ⟨rfl, hb4⟩; have hb5 := hbr.trans (hb4.mono hbr.size); have hcl := HCl.out _ hb5))
          go_round
          case rel => exact ⟨k + 1, by omega, by rw [HX.out]; rfl, by go_num, hb5⟩
          case measure => simp [intOf]; omega
      · have he : endB l k = false := by unfold endB; rw [decide_eq_false (by have := hnl.out; omega)]; rfl
        rw [he] at HX
        have i2 : ¬ (k : Int) < (n : Int) := by omega
        clear hx HD HO HS HM he
        go_wp2_with (first | (go_at_call 10; refine (hD.out _).mono ?_; rintro e w4 ⟨rfl, hb4⟩; have hb5 := hbr.trans (hb4.mono hbr.size)))
        go_round
        case rel => exact ⟨k + 1, by omega, by rw [HX.out]; rfl, by go_num, hb5⟩
        case measure => simp [intOf]; omega
    · obtain rfl : k = q + 1 := by omega
      have HL := Lib.hid (readL_any (rS (endB l) (q + 1)) wr (by omega) (HM.out _ hbr))
      have hok := rul_any (endB l) (q + 1) (by omega) (by omega)
      unfold ReadGo at HL
      generalize readT (rS (endB l) (q + 1)) = R at HL hok
      generalize rS (endB l) (q + 1) = t at HL ht
      obtain ⟨so, e, p⟩ := R
      unfold soOk at hok
      simp only [Bool.and_eq_true, beq_iff_eq, List.all_eq_true, List.mem_range] at hok
      obtain ⟨rfl, ho1, ho2, ho3⟩ := hok
      simp only at HL
      have i3 : ¬ ((q + 1 : Nat) : Int) < (1 : Int) + (q : Int) := by omega
      clear HX HS hx hnl hnc hc ht
      go_upto_region 12 with (first | (go_at_call 11; refine HL.out.mono ?_; rintro r w3 ⟨d, g, n1, c1, n2, c2, S1, rfl, hF1, hS1, hb3⟩))
      have hb4 : Below w3.heap.size w3 ((w3.alloc (.cells #[.string so.pro, .slice d n1 c1, .slice g n2 c2, .string so.tail] 29)).alloc (.cells #[.int .i64 0, .int .i64 p, .string ByteArray.empty] 32)) := ((Below.refl w3.heap.size w3).alloc (Nat.le_refl _) (.cells #[.string so.pro, .slice d n1 c1, .slice g n2 c2, .string so.tail] 29)).alloc (by simp) (.cells #[.int .i64 0, .int .i64 p, .string ByteArray.empty] 32)
      have HC : Hid (∀ W, Below ((w3.alloc (.cells #[.string so.pro, .slice d n1 c1, .slice g n2 c2, .string so.tail] 29)).alloc (.cells #[.int .i64 0, .int .i64 p, .string ByteArray.empty] 32)).heap.size ((w3.alloc (.cells #[.string so.pro, .slice d n1 c1, .slice g n2 c2, .string so.tail] 29)).alloc (.cells #[.int .i64 0, .int .i64 p, .string ByteArray.empty] 32)) W → W.cell? ⟨w3.heap.size, 1, none⟩ = some (.slice d n1 c1) ∧ W.cell? ⟨w3.heap.size, 2, none⟩ = some (.slice g n2 c2) ∧ W.cell? ⟨w3.heap.size + 1, 0, none⟩ = some (.int .i64 0)) := Lib.hid (fun W h =>
        ⟨(boxes2' h).1 1 _ rfl, (boxes2' h).1 2 _ rfl, (boxes2' h).2 0 _ rfl⟩)
      have HV : Hid (∀ W, Below w3.heap.size w3 W → SoV W (.agg #[.string so.pro, .slice d n1 c1, .slice g n2 c2, .string so.tail]) so) := Lib.hid (fun W h => firm_far hF1 h)
      have hbb : Below w.heap.size w w3 := hbr.trans (hb3.mono hbr.size)
      have hb5 := hbb.trans (hb4.mono hbb.size)
      generalize ((w3.alloc (.cells #[.string so.pro, .slice d n1 c1, .slice g n2 c2, .string so.tail] 29)).alloc (.cells #[.int .i64 0, .int .i64 p, .string ByteArray.empty] 32)) = w4 at hb4 hb5 HC ⊢
      obtain ⟨f1, f2, f3⟩ := HC.out w4 (Below.refl _ _)
      have hlen : n1 = 0 ∧ n2 = q + 1 := by
        obtain ⟨dv, rv, e1, hD1, hR1⟩ := HV.out w4 hb4
        cases e1
        obtain ⟨_, _, _, e2, h2, _⟩ := hD1.open
        obtain ⟨_, _, _, e3, h3, _⟩ := hR1.open
        cases e2
        cases e3
        exact ⟨h2.out.trans ho2, h3.out.trans ho1⟩
      obtain ⟨rfl, rfl⟩ := hlen
      have HR : Hid (∀ W, Below w4.heap.size w4 W → ∀ k, k < q + 1 → RlsV W (.slice g (q + 1) c2) so.rules ∧ rlOk k (so.rules.getD k noRl) = true) := Lib.hid (fun W h k hk => by
        obtain ⟨dv, rv, e1, hD1, hR1⟩ := HV.out W (hb4.trans (h.mono hb4.size))
        cases e1
        exact ⟨hR1, ho3 k hk⟩)
      have i4 : ((q + 1 : Nat) : Int) = (1 : Int) + (q : Int) := by omega
      clear hF1 hS1 HL HV ho1 ho2 ho3 hb3
      go_wp2_with fail
      clear f1 f2 f3 hb4
      go_loopw [9] (fun y wq => ∃ k : Nat, k ≤ q + 1 ∧ y = .int .i64 k ∧ Below w4.heap.size w4 wq) (fun y wq => q + 1 - (intOf y).toNat)
      case atStart => exact ⟨0, Nat.zero_le _, rfl, Below.refl _ _⟩
      case round =>
        obtain ⟨k, hk, rfl, hbq⟩ := hrel
        obtain ⟨f1, f2, f3⟩ := HC.out wr hbq
        by_cases hlt2 : k < q + 1
        · obtain ⟨hR1, hok⟩ := HR.out wr hbq k hlt2
          have hD := Lib.hid (HD.out k (by omega))
          have i1 : (k : Int) < (1 : Int) + (q : Int) := by omega
          have i2 : (k : Int) < ((q + 1 : Nat) : Int) := by omega
          obtain ⟨b, o, b2, o2, b3, o3, c3, pc0, pc1, pa0, pos, rfl, hc3, hc4, x0, x1, x2, y0, y1, z0⟩ := rule_at hR1 hlt2 hok
          have h9 := HO.out k (by omega)
          generalize hd : numT (k : Int) = dg at hD x0 h9
          have s1 : ((⟨#[97]⟩ : ByteArray) ++ dg).size = 1 + dg.size := ByteArray.size_append
          have d1 : (((⟨#[97]⟩ : ByteArray) ++ dg).toList == ((⟨#[97]⟩ : ByteArray) ++ dg).toList) = true := by simp
          clear hR1 hok HR HC HD HM hd HO
          go_upto_region 18 with fail
          have hbx := (Below.refl wr.heap.size wr).alloc (Nat.le_refl _) (.cells #[.string ((⟨#[97]⟩ : ByteArray) ++ dg), .slice (some ⟨b2, o2, none⟩) 2 c3, .int .i64 pos] 37)
          have hB := heap_alloc_new wr (.cells #[.string ((⟨#[97]⟩ : ByteArray) ++ dg), .slice (some ⟨b2, o2, none⟩) 2 c3, .int .i64 pos] 37)
          generalize wr.alloc (.cells #[.string ((⟨#[97]⟩ : ByteArray) ++ dg), .slice (some ⟨b2, o2, none⟩) 2 c3, .int .i64 pos] 37) = wB at hB hbx ⊢
          have p0 := over_cell (show wB.cell? ⟨wr.heap.size, 0, none⟩ = some (.string ((⟨#[97]⟩ : ByteArray) ++ dg)) by rw [cell_of_row wB _ 0 _ _ (0, 0) hB]; rfl)
          have p1 := over_cell (show wB.cell? ⟨wr.heap.size, 1, none⟩ = some (.slice (some ⟨b2, o2, none⟩) 2 c3) by rw [cell_of_row wB _ 1 _ _ (0, 0) hB]; rfl)
          have p2 := over_cell (cell_far hbx y0)
          have p3 := over_cell (cell_far hbx y1)
          have p4 := over_cell (cell_far hbx z0)
          have hbw2 := hbq.trans (hbx.mono hbq.size)
          clear x0 x1 x2 y0 y1 z0 hB
          refine wp_region_over (by kernel_rfl) (by kernel_rfl) ?_
          repeat (first | go_big_quiet_skip | (go_big_quiet_want; go_big_quiet_op; first | go_big_quiet_on | (apply Exists.intro; refine ⟨fun _ => ?_, ?_⟩; (first | (go_at_call 10; exact calls_over (hD.out _) (fun e w1 h => h))); go_big_quiet_on)))
          refine wpQuiet_nil ?_
          intro _ hw'
          obtain ⟨V, hw''⟩ := hw'
          subst hw''
          have hz := over_below wB V
          generalize over wB V = w9 at hz ⊢
          go_wp2_with fail
          go_round
          case rel => exact ⟨k + 1, by omega, by go_num, hbw2.trans (hz.mono hbw2.size)⟩
          case measure => simp [intOf]; omega
        · obtain rfl : k = q + 1 := by omega
          have i2 : ¬ ((q + 1 : Nat) : Int) < (1 : Int) + (q : Int) := by omega
          clear f1 f2 f3 HR HC HD HM
          go_wp2_with fail
          go_ret
          exact ⟨rfl, hb5.trans (hbq.mono hb5.size)⟩
end Go.Proofs.YtnoppoifepbchaaDoor
