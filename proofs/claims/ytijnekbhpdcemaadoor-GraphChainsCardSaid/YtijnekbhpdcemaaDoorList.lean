/- The numbers of a set, rising. -/
import Derived.Test.YtijnekbhpdcemaaDoorLen
import Derived.Test.YtijnekbhpdcemaaDoorApp
import Derived.Outline
namespace Go.Proofs.YtijnekbhpdcemaaDoor
open Go.RowKit
set_option linter.unusedVariables false

def bitsOf (x : Nat) : List Nat := (List.range 64).filter x.testBit

theorem filter_head (p q : Nat → Bool) (k r : Nat) (hp : ∀ i, i < k → p i = false) (hk : p k = true) (hq : ∀ i, q i = (p i && decide (i ≠ k))) :
    (List.range (k + (1 + r))).filter p = k :: (List.range (k + (1 + r))).filter q := by
  rw [List.range_add, List.filter_append, List.filter_append, List.range_add, List.map_append, List.filter_append, List.filter_append]
  have e1 : (List.range k).filter p = [] := by
    rw [List.filter_eq_nil_iff]; intro i hi; rw [hp i (by simpa using hi)]; simp
  have e2 : (List.range k).filter q = [] := by
    rw [List.filter_eq_nil_iff]; intro i hi; rw [hq, hp i (by simpa using hi)]; simp
  have e3 : ((List.range 1).map (k + ·)).filter p = [k] := by simp [List.range_succ, hk]
  have e4 : ((List.range 1).map (k + ·)).filter q = [] := by simp [List.range_succ, hq]
  have e5 : ((((List.range r).map (1 + ·)).map (k + ·))).filter p = ((((List.range r).map (1 + ·)).map (k + ·))).filter q := by
    apply List.filter_congr
    intro i hi
    simp only [List.mem_map, List.mem_range] at hi
    obtain ⟨a, ⟨b, hb, rfl⟩, rfl⟩ := hi
    rw [hq]
    have : (decide (k + (1 + b) ≠ k)) = true := by simp
    rw [this, Bool.and_true]
  rw [e1, e2, e3, e4, e5]; rfl

theorem bitsOf_zero : bitsOf 0 = [] := by
  unfold bitsOf; simp

theorem low_step (x : Nat) (h0 : x ≠ 0) (h : x < 18446744073709551616) : bitsOf x = Lib.ctz 64 x :: bitsOf (x &&& (x - 1)) ∧ Lib.ctz 64 x < 64 ∧ (x &&& (x - 1)) < x := by
  have hk := (Lib.lowest_bit 64 x h0 h).2
  obtain ⟨m, hm, _⟩ := Lib.ctzFrom_spec 64 x (by omega) h
  have ec : Lib.ctz 64 x = Lib.ctzFrom 64 x := by simp [Lib.ctz, h0]
  rw [ec] at hk ⊢
  generalize Lib.ctzFrom 64 x = k at *
  have hx : x.testBit = fun i => decide (i = k) || (decide (k + 1 ≤ i) && m.testBit (i - (k + 1))) := by
    funext i
    rw [hm, Nat.testBit_two_pow_mul]
    by_cases h1 : i < k
    · have : ¬ k ≤ i := by omega
      have h3 : ¬ i = k := by omega
      have h4 : ¬ k + 1 ≤ i := by omega
      simp [this, h3, h4]
    · by_cases h2 : i = k
      · subst h2; simp
      · have h5 : i - k = (i - (k + 1)) + 1 := by omega
        have h6 : k ≤ i := by omega
        have h7 : k + 1 ≤ i := by omega
        have e1 : (2 * m + 1) / 2 = m := by omega
        rw [h5, Nat.testBit_succ, e1]
        simp [h2, h6, h7]
  have hy : (x &&& (x - 1)) = 2 ^ (k + 1) * m := by
    have e1 : x - 1 = 2 ^ (k + 1) * m + (2 ^ k - 1) := by
      have hpos : 0 < 2 ^ k := Nat.two_pow_pos k
      rw [hm, Nat.mul_add, Nat.mul_one, Nat.pow_succ, Nat.mul_assoc]; omega
    apply Nat.eq_of_testBit_eq
    intro i
    rw [Nat.testBit_and, hx, e1, Nat.testBit_two_pow_mul_add m (i := k + 1) (by have : 0 < 2 ^ k := Nat.two_pow_pos k; rw [Nat.pow_succ]; omega), Nat.testBit_two_pow_mul, Nat.testBit_two_pow_sub_one]
    by_cases h1 : i < k + 1
    · have h4 : ¬ k + 1 ≤ i := by omega
      by_cases h2 : i = k
      · subst h2
        have h5 : ¬ i + 1 ≤ i := by omega
        simp [h5]
      · have h3 : i < k := by omega
        simp [h2, h4, h1]
    · have h3 : ¬ i = k := by omega
      have h4 : k + 1 ≤ i := by omega
      simp [h3, h4, h1]
  refine ⟨?_, hk, ?_⟩
  · have hq : ∀ i, (x &&& (x - 1)).testBit i = (x.testBit i && decide (i ≠ k)) := by
      intro i
      rw [hy, hx, Nat.testBit_two_pow_mul]
      by_cases h1 : i = k
      · subst h1
        have h5 : ¬ i + 1 ≤ i := by omega
        simp [h5]
      · simp [h1]
    have hlow : ∀ i, i < k → x.testBit i = false := by
      intro i hi
      have h3 : ¬ i = k := by omega
      have h4 : ¬ k + 1 ≤ i := by omega
      rw [hx]; simp [h3, h4]
    have := filter_head x.testBit (x &&& (x - 1)).testBit k (63 - k) hlow (by rw [hx]; simp) hq
    rw [show k + (1 + (63 - k)) = 64 by omega] at this
    exact this
  · have hpos : 0 < 2 ^ k := Nat.two_pow_pos k
    rw [hy]
    have e1 : x = 2 ^ (k + 1) * m + 2 ^ k := by rw [hm, Nat.mul_add, Nat.mul_one, Nat.pow_succ, Nat.mul_assoc]
    omega

/-- the numbers that the words hold, rising -/
def membersS (ws : List Nat) : List Int := ((List.range 1024).filter (fun (n : Nat) => memS ws (n : Int))).map (fun (n : Nat) => (n : Int))
def wordNums (ws : List Nat) (i : Nat) : List Int := (bitsOf (ws.getD i 0)).map (fun (b : Nat) => (i : Int) * 64 + (b : Int))

theorem flatMap_congr' {α β : Type} {l : List α} {f g : α → List β} (h : ∀ a ∈ l, f a = g a) : l.flatMap f = l.flatMap g := by
  induction l with
  | nil => rfl
  | cons a l ih => rw [List.flatMap_cons, List.flatMap_cons, h a (by simp), ih (fun b hb => h b (by simp [hb]))]

theorem membersS_eq (ws : List Nat) : membersS ws = (List.range 16).flatMap (wordNums ws) := by
  unfold membersS
  have e : List.range 1024 = (List.range 16).flatMap (fun i => (List.range 64).map (fun b => i * 64 + b)) := by decide +kernel
  rw [e, List.filter_flatMap, List.map_flatMap]
  apply flatMap_congr'
  intro i hi
  have hi' : i < 16 := by simpa using hi
  unfold wordNums bitsOf
  rw [List.filter_map, List.map_map]
  have : (List.range 64).filter ((fun n : Nat => memS ws (n : Int)) ∘ fun b => i * 64 + b) = (List.range 64).filter (ws.getD i 0).testBit := by
    apply List.filter_congr
    intro b hb
    have hb' : b < 64 := by simpa using hb
    unfold memS
    simp only [Function.comp]
    have h1 : ((i * 64 + b : Nat) : Int).toNat / 64 = i := by omega
    have h2 : ((i * 64 + b : Nat) : Int).toNat % 64 = b := by omega
    rw [h1, h2]
    have h3 : decide (0 ≤ ((i * 64 + b : Nat) : Int) ∧ ((i * 64 + b : Nat) : Int) < 1024) = true := by simp; omega
    rw [h3, Bool.true_and]
  rw [this]
  apply List.map_congr_left
  intro b _
  simp [Function.comp]

theorem flat_succ (ws : List Nat) (k : Nat) : (List.range (k + 1)).flatMap (wordNums ws) = (List.range k).flatMap (wordNums ws) ++ wordNums ws k := by
  rw [List.range_succ, List.flatMap_append]; simp

theorem wordNums_length (ws : List Nat) (k : Nat) : (wordNums ws k).length ≤ 64 := by
  unfold wordNums bitsOf
  rw [List.length_map]
  exact Nat.le_trans (List.length_filter_le _ _) (by simp)
theorem flat_length (ws : List Nat) (k : Nat) : ((List.range k).flatMap (wordNums ws)).length ≤ 64 * k := by
  induction k with
  | zero => simp
  | succ k ih => rw [flat_succ, List.length_append]; have := wordNums_length ws k; omega

theorem subW (x : Nat) (h0 : x ≠ 0) (h : x < 18446744073709551616) : bits .and .u64 (x : Int) ((x : Int) - 1) = ((x &&& (x - 1) : Nat) : Int) := by
  rw [show (x : Int) - 1 = ((x - 1 : Nat) : Int) by omega, bits_and_u64_nat _ _ h (by omega)]

theorem block_grown_none {w w' : World} {b : Nat} (h : w.grownBy w' none) (hb : b < w.heap.size) : w'.heap[b]? = w.heap[b]? :=
  (Below.grown (Below.refl w.heap.size w) h (Nat.le_refl _) (fun k e => by cases e)).block b hb

theorem tab_below {g : Nat} {tab : List Nat} {w w' : World} (h : TabAt g tab w) (hb : Below w.heap.size w w') (hg : g < w.heap.size) : TabAt g tab w' :=
  fun j hj => (hb.cell hg).trans (h j hj)

theorem Tryd.infoInt : (Tryd.prog.info? 3).map (fun i => (i.zero, i.size, i.bytes)) = some (some (.int .i64 0), 1, 8) := by kernel_rfl

set_option maxRecDepth 100000 in
set_option maxHeartbeats 400000 in
theorem list_any (ws : List Nat) (w : World) (hws : ws.length = 16) (h64 : ∀ y ∈ ws, y < 2 ^ 64) (hT : TabAt 0 Lib.deBruijn64tab w) :
    Calls Tryd.prog 17 #[.agg (setA ws)] w fun e w' => ∃ v, e = .returned v ∧ w'.ownsRow w.heap.size 3 1 v (membersS ws).length ((membersS ws).map (.int .i64)) ∧ Below w.heap.size w w' := by
  have hL := Lib.hid hws; have H64 := Lib.hid h64
  have HT := Lib.hid hT
  obtain ⟨i0, hi, hz0, hz1, hz2⟩ := info_parts Tryd.infoInt
  clear hT
  have hlt := lenTo_le ws 16
  generalize hg : lenTo ws 16 = c at hlt
  have HG := Lib.hid hg
  clear hg
  go_enter Tryd.func17, Tryd.ntmps17
  go_wp2_with (first | (refine wpList_load_row rfl 29 _ rfl w.heap.size rfl 29 (setA ws) (0, 0) _ (heap_alloc_new w (.cells (setA ws) 29)) Tryd.underlying29 rfl (setInfo_of ws hL.out) ?_))
  refine (len_any ws _ hws h64).mono ?_
  rintro e w1 ⟨rfl, hb1⟩
  rw [HG.out]
  clear hws h64
  have hs1 : w.heap.size + 1 ≤ w1.heap.size := by have := hb1.size; simp at this; omega
  have hbox : w1.heap[w.heap.size]? = some (.cells (setA ws) 29 (0, 0)) := by rw [hb1.block _ (by simp)]; exact heap_alloc_new _ _
  have hbw : Below w.heap.size w w1 := ((Below.refl _ _).alloc (Nat.le_refl _) _).trans (hb1.mono (by simp))
  clear hb1
  go_wp2_with (first
    | (at_make; refine wpList_make_own _ rfl _ _ 22 rfl (w.heap.size + 1) 3 i0 (.int .i64 0) 1 Tryd.underlying22 hi hz0 hz1 _ _ _ c rfl rfl rfl (by rw [hz2]; omega) (by unfold maxLen; omega) hs1 ?_; intro w2 hown2 hgrow2; have hbox2 := (block_grown_none hgrow2 (Nat.lt_of_succ_le hs1)).trans hbox; have hbw2 := hbw.grown hgrow2 (Nat.le_of_succ_le hs1) (fun k h => by cases h); clear hgrow2)
    | (refine wpList_load_row rfl 27 _ rfl w.heap.size rfl 29 (setA ws) (0, 0) _ hbox2 Tryd.underlying27 rfl (arrInfo_of ws hL.out) ?_))
  have hgs : 0 < w.heap.size := World.block_lt_of_cell? _ _ (HT.out 0 (by decide))
  go_loopw [3, 4, 5, 11] (fun v y x i wr => ∃ (k : Nat) (L : List Int), k ≤ 16 ∧ i = .int .i64 k ∧ L.length ≤ 64 * k ∧ Hid (L = (List.range k).flatMap (wordNums ws)) ∧ wr.ownsRow (w.heap.size + 1) 3 1 v L.length (L.map (.int .i64)) ∧ Below w.heap.size w wr ∧ w.heap.size + 1 ≤ wr.heap.size) (fun _ _ _ i _ => 16 - (intOf i).toNat)
  case atStart =>
    exact ⟨0, [], Nat.zero_le _, rfl, by simp, Lib.hid rfl, hown2, hbw2, lt_of_block hbox2⟩
  case round =>
    clear hown2 hbw2 hbox2 hbw hbox hs1 hlt
    obtain ⟨k, L, hk, rfl, hLl, hLe, hown, hb, hsz⟩ := hrel
    by_cases hlt : k < 16
    · have hkw : k < ws.length := by rw [hL.out]; exact hlt
      have hix := fun (W : World) => run_index_agg (P := Tryd.prog) W 27 26 .u64 16 (setA ws) k _ Tryd.underlying27 Tryd.underlying26 (by kernel_rfl) hlt (setA_get ws k hkw)
      have hu : ws.getD k 0 < 18446744073709551616 := by
        rw [List.getD_eq_getElem?_getD, List.getElem?_eq_getElem hkw]; exact H64.out _ (List.getElem_mem _)
      have hsn := Lib.hid (flat_succ ws k)
      have hdk : decide ((k : Int) < 16) = true := by simp; omega
      have hwl := wordNums_length ws k
      have hwn : Hid (wordNums ws k = (bitsOf (ws.getD k 0)).map (fun (b : Nat) => (k : Int) * 64 + (b : Int))) := Lib.hid rfl
      generalize ws.getD k 0 = u0 at hix hu hwn
      clear hkw
      obtain ⟨wo, rfl⟩ : ∃ wo : World, wo = wr := ⟨_, rfl⟩
      go_wp2_with (fail)
      go_loopw [3, 5] (fun v x wi => ∃ (u : Nat) (o : List Int), x = .int .u64 u ∧ u < 18446744073709551616 ∧ o.length ≤ 64 * (k + 1) ∧ Hid (o ++ (bitsOf u).map (fun (b : Nat) => (k : Int) * 64 + (b : Int)) = L ++ wordNums ws k) ∧ wi.ownsRow (w.heap.size + 1) 3 1 v o.length (o.map (.int .i64)) ∧ Below w.heap.size w wi ∧ w.heap.size + 1 ≤ wi.heap.size) (fun _ x _ => (intOf x).toNat)
      case atStart => exact ⟨u0, L, rfl, hu, by omega, Lib.hid (by rw [hwn.out]), hown, hb, hsz⟩
      case round =>
        clear hown hb hsz hu
        obtain ⟨u, o, rfl, hu, hol, ho, hown, hb, hsz⟩ := hrel
        by_cases hu0 : u = 0
        · subst hu0
          have hz0 : ((0 : Nat) : Int) = 0 := rfl
          go_wp2_with (fail)
          go_roundw
          case rel => exact ⟨k + 1, o, by omega, by go_num, hol, Lib.hid (by rw [hsn.out, ← hLe.out, ← ho.out, bitsOf_zero]; simp), hown, hb, hsz⟩
          case measure => simp [intOf]; omega
        · have hne : ((u : Int) != 0) = true := by simp; exact hu0
          obtain ⟨hbits, ht, hlow⟩ := low_step u hu0 hu
          have hsub := subW u hu0 hu
          have htz := tz_any u hu hu0 wr (tab_below HT.out hb hgs)
          have ho2 : Hid ((o ++ [(k : Int) * 64 + ((Lib.ctz 64 u : Nat) : Int)]) ++ (bitsOf (u &&& (u - 1))).map (fun (b : Nat) => (k : Int) * 64 + (b : Int)) = L ++ wordNums ws k) := Lib.hid (by
            rw [← ho.out, hbits]; simp)
          have hlen : Hid (o.length + 1 ≤ 64 * (k + 1)) := Lib.hid (by
            have := congrArg List.length ho.out
            rw [hbits] at this
            simp at this; omega)
          generalize Lib.ctz 64 u = t at ht htz ho2
          generalize u &&& (u - 1) = u' at hsub hlow ho2
          have HTZ := Lib.hid htz
          clear htz hbits ho
          go_wp2_with (fail)
          refine HTZ.out.mono ?_
          rintro e w3 ⟨rfl, rfl⟩
          go_wp2_with (first | (at_builtin; refine wpList_append_own _ rfl _ _ 22 rfl (w.heap.size + 1) 3 i0 (.int .i64 0) 1 8 Tryd.underlying22 hi hz0 hz1 hz2 rfl (by decide) _ _ _ rfl (hown.alloc _) ⟨wr.heap.size, 0, none⟩ 1 1 [.int .i64 ((k : Int) * 64 + (t : Int))] rfl rfl ?c1 ?c2 ?c3 ?c4 ?c5 ?_))
          case c1 =>
            intro j y hj
            match j, hj with
            | 0, hj => simp at hj; subst hj; simp [Addr.add]
          case c2 => intro y hy; simp at hy; subst hy; rfl
          case c3 => unfold maxLen; omega
          case c4 => omega
          case c5 => simp; omega
          intro v' w4 hown' hgrow _
          have hb' := (hb.alloc (Nat.le_of_succ_le hsz) (.cells #[.int .i64 ((k : Int) * 64 + (t : Int))] 3)).grown hgrow (by simp; omega) (own_base hown (Nat.le_succ _))
          have hsz' : w.heap.size + 1 ≤ w4.heap.size := Nat.le_trans hsz (Nat.le_trans (by simp) (grown_size hgrow))
          clear hgrow hown hb
          go_wp2_with (fail)
          go_roundw
          case rel => exact ⟨u', o ++ [(k : Int) * 64 + (t : Int)], rfl, by omega, by simp; exact hlen.out, ho2, by simpa using hown', hb', hsz'⟩
          case measure => simp [intOf]; omega
    · obtain rfl : k = 16 := by omega
      go_wp2_with (fail)
      go_ret
      refine ⟨_, rfl, ?_, hb⟩
      rw [membersS_eq, ← hLe.out]
      exact own_weaken hown (Nat.le_succ _)

end Go.Proofs.YtijnekbhpdcemaaDoor
