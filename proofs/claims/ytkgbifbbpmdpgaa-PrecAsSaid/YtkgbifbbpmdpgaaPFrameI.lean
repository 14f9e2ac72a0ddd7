/- What the arguments give the walks of levels; the walks. -/
import Derived.Test.YtkgbifbbpmdpgaaPLvP
import Derived.Test.YtkgbifbbpmdpgaaPBox
import Derived.Test.YtkgbifbbpmdpgaaPLv2
import Derived.Test.YtkgbifbbpmdpgaaPPrW
import Derived.IntWalk
import Derived.Outline
import Derived.Deep.DeepCutAuto
import Derived.Deep.Cut
import Derived.Deep.CutRange
import Derived.Test.YtkgbifbbpmdpgaaPFrameV
set_option linter.unusedVariables false
set_option linter.unusedSimpArgs false
namespace Go.Proofs.Ytkgbifbbpmdpgaa
open Go.RowKit
def saysT (m : Int) : Int := if m = 0 then 2 else if m = 1 then 1 else 3
def saysS (kinds : List Int) (i k : Nat) : Int := if i < k then 1 else if k < i then 2 else saysT (kinds.getD i 0 % 3)
section
variable {kinds : List Int} {o s : Nat}
theorem dec_says {g : Gm} {q t : Int} {i k : Nat} (h1 : ruleLv g q = ((i : Int) + 1, 1 + kinds.getD i 0 % 3)) (h2 : tokLv g t = ((k : Int) + 1, 1 + kinds.getD k 0 % 3)) : decLv g q t = saysS kinds i k := by
 rw [decLv_eq, h1, h2]
 simp only
 unfold saysS saysT
 have e1 := Int.emod_nonneg (kinds.getD k 0) (show (3 : Int) ≠ 0 by decide)
 have e2 := Int.emod_lt_of_pos (kinds.getD k 0) (show (0 : Int) < 3 by decide)
 rw [if_neg (by omega)]
 by_cases a : i < k
 · rw [if_pos a, if_pos (by omega)]
 · rw [if_neg a, if_neg (by omega)]
   by_cases b : k < i
   · rw [if_pos b, if_pos (by omega)]
   · obtain rfl : i = k := by omega
     rw [if_neg b, if_neg (by omega)]
     generalize kinds.getD i 0 % 3 = m at *
     rcases (by omega : m = 0 ∨ m = 1 ∨ m = 2) with rfl | rfl | rfl <;> simp
theorem levS_says (hH : LvH kinds o s) {i k : Nat} (hi : i < min kinds.length 9) (hk : k < min kinds.length 9) : decLv (gmOf (levS kinds o s)) ((i : Int) + 1) ((k : Int) + 3) = saysS kinds i k := by
 refine dec_says (levS_rule hH hi) ?_
 rw [show (k : Int) + 3 = 3 + (k : Int) from Int.add_comm _ _]
 exact levS_tok hH hk
theorem levS_open1 (hH : LvH kinds o s) (q : Int) : decLv (gmOf (levS kinds o s)) q (((min kinds.length 9 : Nat) : Int) + 3) = 0 := by
 rw [decLv_eq, show ((min kinds.length 9 : Nat) : Int) + 3 = 3 + ((min kinds.length 9 : Nat) : Int) from Int.add_comm _ _, levS_x hH, if_pos (Or.inr rfl)]
theorem levS_open2 (hH : LvH kinds o s) (t : Int) : decLv (gmOf (levS kinds o s)) (((min kinds.length 9 : Nat) : Int) + 1) t = 0 := by
 rw [decLv_eq, levS_ruleX hH, if_pos (Or.inl rfl)]
theorem levS_saysL (hH : LvH kinds o s) (hn : 0 < min kinds.length 9) {t : Nat} (ht : t < min kinds.length 9) : decLv (gmOf (levS kinds o s)) (((min kinds.length 9 : Nat) : Int) + 2) ((t : Int) + 3) = saysS kinds s t := by
 refine dec_says (levS_ruleL hH hn) ?_
 rw [show (t : Int) + 3 = 3 + (t : Int) from Int.add_comm _ _]
 exact levS_tok hH ht
end
set_option maxRecDepth 100000 in
set_option maxHeartbeats 4000000 in
theorem says_any {w : World} {a : Option Addr} {len cap : Nat} {kinds : List Int} (hk : IntsV w (.slice a len cap) kinds) (hwf : ∀ x ∈ kinds, (Lit.int .i64 x).wf = true) (i k : Nat) (hi : i < kinds.length) :
  Calls Try.prog 19 #[.slice a len cap, .int .i64 (i : Int), .int .i64 (k : Int)] w fun e w' => e = .returned (.int .i64 (saysS kinds i k)) ∧ Below w.heap.size w w' := by
 obtain ⟨a', n', c', e0, hl0, hc0, hm0, hx0⟩ := hk.open
 cases e0
 have hli : i < len := by rw [hl0.out]; exact hi
 obtain ⟨kb, ko, rfl, kc⟩ := hx0.out i hli
 have hkw : (Lit.int .i64 (kinds.getD i 0)).wf = true := by
  rw [List.getD_eq_getElem?_getD, List.getElem?_eq_getElem hi]; exact hwf _ (List.getElem_mem _)
 have HWi : Hid (∀ X, Calls Try.prog 20 #[.int .i64 (kinds.getD i 0), .int .i64 3] X fun e w' => e = .returned (.int .i64 (kinds.getD i 0 % 3)) ∧ X = w') := Lib.hid (fun X => within_any (kinds.getD i 0) 3 X hkw (by omega) (by omega))
 have hm3 := Int.emod_nonneg (kinds.getD i 0) (show (3 : Int) ≠ 0 by decide)
 have hm3' := Int.emod_lt_of_pos (kinds.getD i 0) (show (0 : Int) < 3 by decide)
 have hS : saysS kinds i k = if i < k then 1 else if k < i then 2 else saysT (kinds.getD i 0 % 3) := rfl
 generalize saysS kinds i k = R at hS ⊢
 generalize hkm : kinds.getD i 0 % 3 = m at *
 generalize kinds.getD i 0 = kv at *
 have hb1 : ∀ o, Below w.heap.size w (w.alloc o) := fun o => (Below.refl _ _).alloc (Nat.le_refl _) o
 have kc1 : ∀ o, (w.alloc o).cell? ⟨kb, ko + i, none⟩ = some (.int .i64 kv) := fun o => cell_up (hb1 o) kc
 clear hx0 hwf hl0 hk
 by_cases c1 : i < k
 · rw [if_pos c1] at hS; subst hS
   go_enter Try.func19, Try.ntmps19
   go_wp2_with (fail)
   go_ret
   exact ⟨rfl, Below.refl _ _⟩
 · rw [if_neg c1] at hS
   by_cases c2 : k < i
   · rw [if_pos c2] at hS; subst hS
     go_enter Try.func19, Try.ntmps19
     go_wp2_with (fail)
     go_ret
     exact ⟨rfl, Below.refl _ _⟩
   · rw [if_neg c2] at hS
     rcases (by omega : m = 0 ∨ m = 1 ∨ m = 2) with rfl | rfl | rfl <;> subst hS
     all_goals
      go_enter Try.func19, Try.ntmps19
      go_wp2_with (first | (go_at_call 20; (with_reducible refine (HWi.out _).mono ?_); rintro e w1 ⟨rfl, rfl⟩))
      go_ret
      exact ⟨rfl, hb1 _⟩
end Go.Proofs.Ytkgbifbbpmdpgaa
namespace Go.Proofs.Ytkgbifbbpmdpgaa
open Go.RowKit
theorem lv_firm {S : Nat → Prop} {w1 w2 : World} {Q : World → Prop} (h : Firm S w1 Q) (hb : Below w1.heap.size w1 w2) : Q w2 := (h.below hb).self
set_option maxRecDepth 100000 in
set_option maxHeartbeats 40000000 in
theorem precTable_any {w : World} {a : Option Addr} {len cap : Nat} {kinds : List Int} (hk : IntsV w (.slice a len cap) kinds) (hwf : ∀ x ∈ kinds, (Lit.int .i64 x).wf = true) :
  Calls Try.prog 4 #[.slice a len cap] w fun e w' => e = .returned (.bool true) ∧ Below w.heap.size w w' := by
 have hH : LvH kinds 0 0 := fun h => ⟨h, h⟩
 have hok := (levS_ok hH).1
 have HD := Lib.hid (fun (i k : Nat) hi hk => levS_says (i := i) (k := k) hH hi hk)
 have HO1 := Lib.hid (fun q => levS_open1 hH q)
 have HO2 := Lib.hid (fun t => levS_open2 hH t)
 have HL : Hid (∀ X, Below w.heap.size w X → Calls Try.prog 18 #[.slice a len cap, .int .i64 0, .int .i64 0] X (LvGo (levS kinds 0 0) (min kinds.length 9) X)) :=
  Lib.hid (fun X hX => leveled_any (hk.below hX) hwf 0 0 (by omega) (by omega))
 have HSy := Lib.hid (fun (X : World) (hX : Below w.heap.size w X) (i k : Nat) hi => says_any (hk.below hX) hwf i k hi)
 have HW := Lib.hid (precWakes_any w)
 have hn9 : min kinds.length 9 ≤ 9 := by omega
 have hnl : min kinds.length 9 ≤ kinds.length := by omega
 unfold LvGo at HL
 rw [hok] at HL
 generalize min kinds.length 9 = n at *
 generalize gmOf (levS kinds 0 0) = g at *
 generalize hpr : g.pro = pr at HL
 generalize htl : g.tail = tl at HL
 clear hk hwf hH hok
 go_enter Try.func4, Try.ntmps4
 go_upto_region 3 with (first | (go_at_call 10; (with_reducible refine HW.out.mono ?_); rintro e w1 ⟨rfl, hbw⟩))
 have HL1 := Lib.hid (HL.out _ hbw)
 clear HL HW
 go_upto_region 4 with (first | (go_at_call 18; (with_reducible refine HL1.out.mono ?_); rintro e w3 ⟨t, nn, p, m1, d1, m2, d2, m3, d3, S, rfl, hFg, hSg, hb3⟩))
 have hk4 : Below w3.heap.size w3 (w3.alloc (.cells #[.slice t m1 d1, .slice nn m2 d2, .slice p m3 d3, .string pr, .string tl] 38)) := (Below.refl _ _).alloc (Nat.le_refl _) _
 have hrN := ofMade w3 #[.slice t m1 d1, .slice nn m2 d2, .slice p m3 d3, .string pr, .string tl] 38 w3.heap.size rfl
 have hFg4 := hFg.below hk4
 have hbr := hbw.trans (hb3.mono hbw.size)
 have hbr4 := hbr.trans (hk4.mono hbr.size)
 clear HL1 hFg hb3 hk4 hSg hbr
 generalize w3.alloc (.cells #[.slice t m1 d1, .slice nn m2 d2, .slice p m3 d3, .string pr, .string tl] 38) = W4 at *
 generalize w3.heap.size = Bg at *
 have HG : Hid (∀ X, Below W4.heap.size W4 X → GmO X t nn p m1 d1 m2 d2 m3 d3 pr tl g ∧ X.cell? ⟨Bg, 0, none⟩ = some (.slice t m1 d1) ∧ X.cell? ⟨Bg, 1, none⟩ = some (.slice nn m2 d2) ∧ X.cell? ⟨Bg, 2, none⟩ = some (.slice p m3 d3) ∧ X.cell? ⟨Bg, 3, none⟩ = some (.string pr) ∧ X.cell? ⟨Bg, 4, none⟩ = some (.string tl)) := Lib.hid (fun X hX => by
  have hr := (hX.block Bg (Array.getElem?_eq_some_iff.1 hrN).1).trans hrN
  refine ⟨lv_firm hFg4 hX, cell_of_row X _ 0 _ _ _ hr, cell_of_row X _ 1 _ _ _ hr, cell_of_row X _ 2 _ _ _ hr, cell_of_row X _ 3 _ _ _ hr, cell_of_row X _ 4 _ _ _ hr⟩)
 have HSy4 := Lib.hid (fun (X : World) (hX : Below W4.heap.size W4 X) (i k : Nat) (hi : i < n) => HSy.out X (hbr4.trans (hX.mono hbr4.size)) i k (Nat.lt_of_lt_of_le hi hnl))
 clear HSy hFg4 hrN hpr htl hbw hnl
 go_wp2_with fail
 go_loopw [6] (fun x6 X => ∃ i : Nat, i ≤ n ∧ x6 = .int .i64 i ∧ Below W4.heap.size W4 X) (fun x6 _ => n - (intOf x6).toNat)
 case atStart => exact ⟨0, Nat.zero_le _, rfl, Below.refl _ _⟩
 case round =>
  obtain ⟨i, hi, rfl, f4⟩ := hrel
  rename World => U
  by_cases hin : i < n
  · have i1 : (i : Int) < (n : Int) := by omega
    go_wp2_with fail
    go_loopw [7] (fun x7 X => ∃ k : Nat, k ≤ n ∧ x7 = .int .i64 k ∧ Below W4.heap.size W4 X) (fun x7 _ => n - (intOf x7).toNat)
    case atStart => exact ⟨0, Nat.zero_le _, rfl, f4⟩
    case round =>
     obtain ⟨k, hk, rfl, f5⟩ := hrel
     rename World => V
     obtain ⟨hO, k0, k1, k2, k3, k4⟩ := HG.out _ f5
     by_cases hkn : k < n
     · have i2 : (k : Int) < (n : Int) := by omega
       have HP := Lib.hid (pdec_any hO ((i : Int) + 1) ((k : Int) + 3))
       rw [HD.out i k hin hkn] at HP
       have HQ := Lib.hid (fun (X : World) (hX : Below W4.heap.size W4 X) => HSy4.out X hX i k hin)
       generalize saysS kinds i k = R at HP HQ
       clear hO
       go_wp2_with (first
        | (go_at_call 16; (with_reducible refine HP.out.mono ?_); rintro e w6 ⟨rfl, hb6⟩; have f6 := f5.trans (hb6.mono f5.size))
        | (go_at_call 19; (with_reducible refine (HQ.out _ f6).mono ?_); rintro e w7 ⟨rfl, hb7⟩; have f7 := f6.trans (hb7.mono f6.size)))
       go_round
       case rel => exact ⟨k + 1, by omega, by go_num, f7⟩
       case measure => simp [intOf]; omega
     · obtain rfl : k = n := by omega
       have HP := Lib.hid (pdec_any hO ((i : Int) + 1) ((k : Int) + 3))
       rw [HO1.out] at HP
       have HP2 := Lib.hid (fun (X : World) (hX : Below W4.heap.size W4 X) => pdec_any (HG.out _ hX).1 ((k : Int) + 1) ((i : Int) + 3))
       rw [HO2.out] at HP2
       clear hO
       go_wp2_with (first
        | (go_at_call 16; (with_reducible refine HP.out.mono ?_); rintro e w6 ⟨rfl, hb6⟩; have f6 := f5.trans (hb6.mono f5.size); obtain ⟨_, l0, l1, l2, l3, l4⟩ := HG.out _ f6)
        | (go_at_call 16; (with_reducible refine (HP2.out _ f6).mono ?_); rintro e w7 ⟨rfl, hb7⟩; have f7 := f6.trans (hb7.mono f6.size)))
       go_round
       case rel => exact ⟨i + 1, by omega, by go_num, f7⟩
       case measure => simp [intOf]; omega
  · go_wp2_with fail
    go_ret
    exact ⟨rfl, hbr4.trans (f4.mono hbr4.size)⟩
end Go.Proofs.Ytkgbifbbpmdpgaa
namespace Go.Proofs.Ytkgbifbbpmdpgaa
open Go.RowKit
set_option maxRecDepth 100000 in
set_option maxHeartbeats 40000000 in
theorem precAs_any {w : World} {a : Option Addr} {len cap : Nat} {kinds : List Int} (oo ss tt : Int) (hk : IntsV w (.slice a len cap) kinds) (hwf : ∀ x ∈ kinds, (Lit.int .i64 x).wf = true)
  (hoo : (Lit.int .i64 oo).wf = true) (hss : (Lit.int .i64 ss).wf = true) (htt : (Lit.int .i64 tt).wf = true) :
  Calls Try.prog 5 #[.slice a len cap, .int .i64 oo, .int .i64 ss, .int .i64 tt] w fun e w' => e = .returned (.bool true) ∧ Below w.heap.size w w' := by
 have HW := Lib.hid (precWakes_any w)
 obtain ⟨a', n', c', e0, hl0, hc0, hm0, hx0⟩ := hk.open
 cases e0
 by_cases h0 : kinds.length = 0
 · obtain rfl : len = 0 := by rw [hl0.out]; exact h0
   clear hk hx0 hwf hoo hss htt hl0
   go_enter Try.func5, Try.ntmps5
   go_wp2_with (first | (go_at_call 10; (with_reducible refine HW.out.mono ?_); rintro e w1 ⟨rfl, hbw⟩))
   go_ret
   exact ⟨rfl, hbw⟩
 have hl1 : 1 ≤ len := by rw [hl0.out]; omega
 have hmin : (if (9 : Int) < (len : Int) then (9 : Int) else (len : Int)) = ((min kinds.length 9 : Nat) : Int) := by rw [← hl0.out]; split <;> omega
 have hn1 : 1 ≤ min kinds.length 9 := by omega
 have hn9 : min kinds.length 9 ≤ 9 := by omega
 have hnl : min kinds.length 9 ≤ kinds.length := by omega
 have key : ∀ (i : Int) (m : Nat), 1 ≤ m → ∃ k : Nat, k < m ∧ i % (m : Int) = k := fun i m h1 => by
  have h2 := Int.emod_nonneg i (show (m : Int) ≠ 0 by omega)
  have h3 := Int.emod_lt_of_pos i (show (0 : Int) < m by omega)
  exact ⟨(i % (m : Int)).toNat, by omega, by omega⟩
 obtain ⟨O, hO, eO⟩ := key oo _ hn1
 obtain ⟨S, hS, eS⟩ := key ss _ hn1
 obtain ⟨T, hT, eT⟩ := key tt _ hn1
 have hH : LvH kinds O S := fun _ => ⟨hO, hS⟩
 have HWO := Lib.hid (fun (X : World) => within_any oo _ X hoo hn1 (by omega))
 have HWS := Lib.hid (fun (X : World) => within_any ss _ X hss hn1 (by omega))
 have HWT := Lib.hid (fun (X : World) => within_any tt _ X htt hn1 (by omega))
 rw [eO] at HWO
 rw [eS] at HWS
 rw [eT] at HWT
 have hok := (levS_ok hH).1
 have hrule := levS_ruleL hH hn1
 have hdec := levS_saysL hH hn1 hT
 have HL : Hid (∀ X, Below w.heap.size w X → Calls Try.prog 18 #[.slice a len cap, .int .i64 (O : Int), .int .i64 (S : Int)] X (LvGo (levS kinds O S) (min kinds.length 9) X)) :=
  Lib.hid (fun X hX => leveled_any (hk.below hX) hwf O S (by omega) (by omega))
 have HSy := Lib.hid (fun (X : World) (hX : Below w.heap.size w X) => says_any (hk.below hX) hwf S T (by omega))
 obtain ⟨kb, ko, rfl, kc⟩ := hx0.out S (by rw [hl0.out]; omega)
 have hkw : (Lit.int .i64 (kinds.getD S 0)).wf = true := by
  rw [List.getD_eq_getElem?_getD, List.getElem?_eq_getElem (by omega)]; exact hwf _ (List.getElem_mem _)
 have HWK : Hid (∀ X, Calls Try.prog 20 #[.int .i64 (kinds.getD S 0), .int .i64 3] X fun e w' => e = .returned (.int .i64 (kinds.getD S 0 % 3)) ∧ X = w') := Lib.hid (fun X => within_any (kinds.getD S 0) 3 X hkw (by omega) (by omega))
 have hm3 := Int.emod_nonneg (kinds.getD S 0) (show (3 : Int) ≠ 0 by decide)
 have hm3' := Int.emod_lt_of_pos (kinds.getD S 0) (show (0 : Int) < 3 by decide)
 have hSl : S < len := by rw [hl0.out]; omega
 have HK := Lib.hid (fun (X : World) (hX : Below w.heap.size w X) => cell_up hX kc)
 unfold LvGo at HL
 rw [hok] at HL
 generalize saysS kinds S T = R at *
 generalize min kinds.length 9 = n at *
 generalize gmOf (levS kinds O S) = g at *
 generalize kinds.getD S 0 % 3 = m at *
 generalize kinds.getD S 0 = kv at *
 generalize hpr : g.pro = pr at HL
 generalize htl : g.tail = tl at HL
 clear hk hwf hH hok hx0 kc hl0 key eO eS eT hoo hss htt hkw h0 hnl
 go_enter Try.func5, Try.ntmps5
 go_upto_region 3 with (first | (go_at_call 10; (with_reducible refine HW.out.mono ?_); rintro e w1 ⟨rfl, hbw⟩))
 have HL1 := Lib.hid (HL.out _ hbw)
 clear HL HW
 go_upto_region 7 with (first
  | (go_at_call 20; (with_reducible refine (HWO.out _).mono ?_); rintro e w1 ⟨rfl, rfl⟩)
  | (go_at_call 20; (with_reducible refine (HWS.out _).mono ?_); rintro e w1 ⟨rfl, rfl⟩)
  | (go_at_call 20; (with_reducible refine (HWT.out _).mono ?_); rintro e w1 ⟨rfl, rfl⟩))
 clear HWO HWS HWT
 go_upto_region 8 with (first | (go_at_call 18; (with_reducible refine HL1.out.mono ?_); rintro e w3 ⟨t, nn, p, m1, d1, m2, d2, m3, d3, Z, rfl, hFg, hSg, hb3⟩))
 have hk4 : Below w3.heap.size w3 (w3.alloc (.cells #[.slice t m1 d1, .slice nn m2 d2, .slice p m3 d3, .string pr, .string tl] 38)) := (Below.refl _ _).alloc (Nat.le_refl _) _
 have hrN := ofMade w3 #[.slice t m1 d1, .slice nn m2 d2, .slice p m3 d3, .string pr, .string tl] 38 w3.heap.size rfl
 have hFg4 := hFg.below hk4
 have hbr := hbw.trans (hb3.mono hbw.size)
 have hbr4 := hbr.trans (hk4.mono hbr.size)
 clear HL1 hFg hb3 hk4 hSg hbr
 generalize w3.alloc (.cells #[.slice t m1 d1, .slice nn m2 d2, .slice p m3 d3, .string pr, .string tl] 38) = W4 at *
 generalize w3.heap.size = Bg at *
 have HG : Hid (∀ X, Below W4.heap.size W4 X → GmO X t nn p m1 d1 m2 d2 m3 d3 pr tl g ∧ X.cell? ⟨Bg, 0, none⟩ = some (.slice t m1 d1) ∧ X.cell? ⟨Bg, 1, none⟩ = some (.slice nn m2 d2) ∧ X.cell? ⟨Bg, 2, none⟩ = some (.slice p m3 d3) ∧ X.cell? ⟨Bg, 3, none⟩ = some (.string pr) ∧ X.cell? ⟨Bg, 4, none⟩ = some (.string tl)) := Lib.hid (fun X hX => by
  have hr := (hX.block Bg (Array.getElem?_eq_some_iff.1 hrN).1).trans hrN
  refine ⟨lv_firm hFg4 hX, cell_of_row X _ 0 _ _ _ hr, cell_of_row X _ 1 _ _ _ hr, cell_of_row X _ 2 _ _ _ hr, cell_of_row X _ 3 _ _ _ hr, cell_of_row X _ 4 _ _ _ hr⟩)
 have HA : Hid (∀ X, Below W4.heap.size W4 X → Below w.heap.size w X) := Lib.hid (fun X hX => hbr4.trans (hX.mono hbr4.size))
 obtain ⟨hO4, k0, k1, k2, k3, k4⟩ := HG.out _ (Below.refl _ _)
 have HR := Lib.hid (prule_any hO4 ((n : Int) + 2))
 rw [hrule] at HR
 have HP := Lib.hid (fun (X : World) (hX : Below W4.heap.size W4 X) => pdec_any (HG.out X hX).1 ((n : Int) + 2) ((T : Int) + 3))
 rw [hdec] at HP
 clear hrule hdec hFg4 hrN hpr htl hbw hO4
 simp only at HR
 go_upto_region 9 with (first | (go_at_call 14; (with_reducible refine HR.out.mono ?_); rintro e w5 ⟨rfl, f5⟩))
 clear HR k0 k1 k2 k3 k4
 obtain ⟨_, k0, k1, k2, k3, k4⟩ := HG.out _ f5
 have kc := HK.out _ (HA.out _ f5)
 go_wp2_with (first
  | (go_at_call 20; (with_reducible refine (HWK.out _).mono ?_); rintro e w6 ⟨rfl, rfl⟩)
  | (go_at_call 16; (with_reducible refine (HP.out _ f5).mono ?_); rintro e w7 ⟨rfl, hb7⟩; have f7 := f5.trans (hb7.mono f5.size))
  | (go_at_call 19; (with_reducible refine (HSy.out _ (HA.out _ f7)).mono ?_); rintro e w8 ⟨rfl, hb8⟩; have f8 := f7.trans (hb8.mono f7.size)))
 go_ret
 exact ⟨rfl, HA.out _ f8⟩
end Go.Proofs.Ytkgbifbbpmdpgaa
namespace Go.Proofs.Ytkgbifbbpmdpgaa
open Go.ChangeShapes Go.WideShapes Go.ChangeAt Go.WideMaps Go.WideElems Go.RowKit Go.Deep
theorem ints_of_trod {H : Type} {enc : TypeId × Value → H} {P : Program} {W : World} {base : Nat} {sp : Nat → Bool} {held : Bool} {T E : TypeId} {a : Option Addr} {n c : Nat} {d : DataW H} {p : List MemPlace}
    (hT : P.underlying T = some (.slice E)) (hE : P.underlying E = some (.int .i64)) (hc : P.cellsOf E = 1) (h : DataW.Trod enc P W base sp held T (.slice a n c) d p) : ∃ l, IntsV W (.slice a n c) l ∧ ∀ x ∈ l, (Lit.int .i64 x).wf = true := by
  obtain ⟨fuel, hf⟩ := h
  rcases open_ints hT hE hc hf with ⟨hcs, _⟩ | ⟨x, l, c', zs, hcs, _, hl, hm, hz, _, hcell, hwz⟩
  · simp [Value.cells] at hcs
    obtain ⟨rfl, rfl, rfl⟩ := hcs
    exact ⟨[], IntsV.mk rfl (by omega) (by omega) (fun i hi => absurd hi (Nat.not_lt_zero _)), fun x hx => by cases hx⟩
  · simp [Value.cells] at hcs
    obtain ⟨rfl, rfl, rfl⟩ := hcs
    have hz' : n ≤ zs.length := by rw [hz]; split <;> omega
    refine ⟨zs.take n, IntsV.mk (by simp; omega) hl (by unfold maxLen at hm; omega) (fun i hi => ?_), fun x hx => hwz x (List.mem_of_mem_take hx)⟩
    have h0 := hcell 0 (by omega)
    have h1 := hcell i (by omega)
    obtain ⟨b, off, spot⟩ := x
    have hspot : spot = none := by simpa [Addr.add] using World.cell?_spot h0
    subst hspot
    have e : (⟨b, off, none⟩ : Addr).add i = ⟨b, off + i, none⟩ := by
      unfold Addr.add; split <;> simp_all
    rw [e] at h1
    refine ⟨b, off, rfl, ?_⟩
    rw [h1, List.getD_eq_getElem?_getD, List.getD_eq_getElem?_getD, List.getElem?_take, if_pos hi]
theorem precTable_law (v : Value) (kinds : List Int) {w : World} (h : IntsV w v kinds ∧ ∀ x ∈ kinds, (Lit.int .i64 x).wf = true) :
    Calls Try.prog 4 #[v] w fun e w' => e = .returned (.bool true) ∧ Below w.heap.size w w' := by
  obtain ⟨a, n, c, rfl, _⟩ := h.1.open
  exact precTable_any h.1 h.2
theorem precAs_law (v : Value) (kinds : List Int) (oo ss tt : Int) {w : World} (h : IntsV w v kinds ∧ ∀ x ∈ kinds, (Lit.int .i64 x).wf = true)
    (hoo : (Lit.int .i64 oo).wf = true) (hss : (Lit.int .i64 ss).wf = true) (htt : (Lit.int .i64 tt).wf = true) :
    Calls Try.prog 5 #[v, .int .i64 oo, .int .i64 ss, .int .i64 tt] w fun e w' => e = .returned (.bool true) ∧ Below w.heap.size w w' := by
  obtain ⟨a, n, c, rfl, _⟩ := h.1.open
  exact precAs_any oo ss tt h.1 h.2 hoo hss htt
end Go.Proofs.Ytkgbifbbpmdpgaa
