/- The law NumsNone walked. -/
import Derived.Test.YtkgbifbbpmdpgaaNNmW
import Derived.Test.YtkgbifbbpmdpgaaNNmN
import Derived.Test.YtkgbifbbpmdpgaaNREnd
import Derived.IntWalk
import Derived.Outline
import Derived.Deep.DeepCutAuto
import Derived.Deep.Cut
import Derived.Deep.CutRange
import Derived.Deep.RegionLaw
import Derived.Deep.OwnRows
import Derived.Deep.AppendLies
set_option linter.unusedVariables false
set_option linter.unusedSimpArgs false
namespace Go.Proofs.Ytkgbifbbpmdpgaa
open Go.RowKit
theorem Try.infoSym24 : (Try.prog.info? 68).map (fun i => (i.zero, i.size, i.bytes)) = some (some (.agg #[.string ByteArray.empty, .bool false, .int .i64 0, .int .i64 0]), 4, 40) := by kernel_rfl
def nSmC (k : Int) : List Value := [.string (tN k.toNat), .bool false, .int .i64 k, .int .i64 0]
def nIntC (k : Int) : List Value := [.int .i64 k]
def NoneM (B D : Nat) (X : World) (u x6 : Value) (os ow : List Int) : Prop :=
 StW X B D 64 [.int .i64 1, .string ⟨#[]⟩, u, .int .i64 0] [⟨68, 4, u, os.length, os.flatMap nSmC⟩, ⟨3, 1, x6, ow.length, ow.flatMap nIntC⟩] (fun _ => False)
theorem NoneM.row0 {B D : Nat} {X : World} {u x6 : Value} {os ow : List Int} (h : NoneM B D X u x6 os ow) : X.ownsRow B 68 4 u os.length (os.flatMap nSmC) := h.own ⟨68, 4, u, os.length, os.flatMap nSmC⟩ (by simp)
theorem NoneM.row1 {B D : Nat} {X : World} {u x6 : Value} {os ow : List Int} (h : NoneM B D X u x6 os ow) : X.ownsRow B 3 1 x6 ow.length (ow.flatMap nIntC) := h.own ⟨3, 1, x6, ow.length, ow.flatMap nIntC⟩ (by simp)
theorem NoneM.ints {B D : Nat} {X : World} {u x6 : Value} {os ow : List Int} (h : NoneM B D X u x6 os ow) : IntsV X x6 ow :=
 ListV.ints (own_list (size := 1) (f := nIntC) (fun _ => rfl) (by omega) h.row1)
theorem NoneM.syms {B D : Nat} {X : World} {u x6 : Value} {os ow : List Int} (h : NoneM B D X u x6 os ow) : SmsV X u (os.map nSm) := by
 obtain ⟨a, c, e, h1, h2, h3, h4⟩ := own_list (size := 4) (f := nSmC) (fun _ => rfl) (by omega) h.row0
 refine ⟨a, c, by rw [List.length_map]; exact e, by rw [List.length_map]; exact h1, h2, h3, fun i x hx => ?_⟩
 rw [List.getElem?_map] at hx
 obtain ⟨k, hk, rfl⟩ := Option.map_eq_some_iff.1 hx
 obtain ⟨b, off, cs, e1, e2, e3, e4⟩ := h4 i k hk
 exact ⟨b, off, cs, e1, e2, e3, e4⟩
theorem NoneM.below {B D : Nat} {X Y : World} {u x6 : Value} {os ow : List Int} (h : NoneM B D X u x6 os ow) (hb : Below X.heap.size X Y) : NoneM B D Y u x6 os ow := StW.below h hb
theorem row_slice {X : World} {B : Nat} {E : TypeId} {size n : Nat} {v : Value} {xs : List Value} (h : X.ownsRow B E size v n xs) : ∃ a c, v = .slice a n c := by
 rcases h.2 with ⟨e, h0⟩ | ⟨g, cap, cur, e, _⟩
 · exact ⟨none, 0, by rw [h0]; exact e⟩
 · exact ⟨_, _, e⟩
theorem NoneM.more1 {B D : Nat} {X w6 : World} {u x6 v' : Value} {os ow : List Int} {k : Int} (h : NoneM B D X u x6 os ow) (ho : w6.ownsRow B 3 1 v' (ow.length + 1) (ow.flatMap nIntC ++ nIntC k)) (hg : X.grownBy w6 x6.ownBlock)
  (hl : v'.ownBlock = x6.ownBlock ∨ v'.ownBlock = some X.heap.size) : NoneM B D w6 u v' os (ow ++ [k]) := by
 have := StW.grow (i := 1) h rfl hg ho hl
 unfold NoneM
 rw [List.length_append, List.length_singleton, List.flatMap_append, List.flatMap_singleton]
 exact this
theorem NoneM.more0 {B D : Nat} {X w6 : World} {u x6 v' : Value} {os ow : List Int} {k : Int} (h : NoneM B D X u x6 os ow) (ho : w6.ownsRow B 68 4 v' (os.length + 1) (os.flatMap nSmC ++ nSmC k)) (hg : X.grownBy w6 u.ownBlock)
  (hl : v'.ownBlock = u.ownBlock ∨ v'.ownBlock = some X.heap.size) : NoneM B D (w6.setCell ⟨D, 2, none⟩ v') v' x6 (os ++ [k]) ow := by
 have := (StW.grow (i := 0) h rfl hg ho hl).put 2 v'
 unfold NoneM
 rw [List.length_append, List.length_singleton, List.flatMap_append, List.flatMap_singleton]
 exact this
set_option maxRecDepth 100000 in
set_option maxHeartbeats 40000000 in
theorem numsNone_any {w : World} {a : Option Addr} {len cap : Nat} {l : List Int} (nn : Int) (hk : IntsV w (.slice a len cap) l) (hwf : ∀ x ∈ l, (Lit.int .i64 x).wf = true) (hnn : (Lit.int .i64 nn).wf = true) :
  Calls Try.prog 9 #[.slice a len cap, .int .i64 nn] w fun e w' => e = .returned (.bool true) ∧ Below w.heap.size w w' := by
 have HW := Lib.hid (numWakes_any w)
 obtain ⟨a', n', c', e0, hl0, hc0, hm0, hx0⟩ := hk.open
 cases e0
 have HX : Hid (∀ i, i < len → ∃ b o, a = some ⟨b, o, none⟩ ∧ w.cell? ⟨b, o + i, none⟩ = some (.int .i64 (l.getD i 0)) ∧ (Lit.int .i64 (l.getD i 0)).wf = true) := Lib.hid (fun i hi => by
  obtain ⟨b, o, e, y⟩ := hx0.out i hi
  refine ⟨b, o, e, y, hwf _ ?_⟩
  rw [List.getD_eq_getElem?_getD, List.getElem?_eq_getElem (by have := hl0.out; omega)]
  exact List.getElem_mem _)
 clear hx0 hwf hl0 hk
 go_enter Try.func9, Try.ntmps9
 go_upto_block 0 with (first | (go_at_call 21; (with_reducible refine HW.out.mono ?_); rintro e w1 ⟨rfl, hbw⟩))
 have hb2 := hbw.alloc hbw.size (.cells #[.int .i64 1, .string ⟨#[]⟩, .slice none 0 0, .int .i64 0] 64)
 have hM0 : NoneM w.heap.size w1.heap.size (w1.alloc (.cells #[.int .i64 1, .string ⟨#[]⟩, .slice none 0 0, .int .i64 0] 64)) (.slice none 0 0) (.slice none 0 0) [] [] := by
  refine ⟨heap_alloc_new w1 (.cells #[.int .i64 1, .string ⟨#[]⟩, .slice none 0 0, .int .i64 0] 64), hbw.size, fun r hr => ?_, fun r hr => ?_, fun i j r r' hij h1 h2 b hb => ?_, fun b h => h.elim, fun b h => h.elim⟩
  · simp only [List.mem_cons, List.not_mem_nil, or_false] at hr
    rcases hr with rfl | rfl <;> exact World.ownsRow_nil _ _ _ _
  · simp only [List.mem_cons, List.not_mem_nil, or_false] at hr
    rcases hr with rfl | rfl <;> exact fun e => by cases e
  · have hr := List.mem_of_getElem? h1
    simp only [List.mem_cons, List.not_mem_nil, or_false] at hr
    rcases hr with rfl | rfl <;> cases hb
 have hDw : w.heap.size ≤ w1.heap.size := hbw.size
 generalize w1.alloc (.cells #[.int .i64 1, .string ⟨#[]⟩, .slice none 0 0, .int .i64 0] 64) = W2 at hb2 hM0 ⊢
 generalize w1.heap.size = D at *
 clear HW hbw
 obtain ⟨i0, hi, iz0, iz1, iz2⟩ := rd_info Try.infoSym24
 obtain ⟨j0, hj, jz0, jz1, jz2⟩ := rd_info Try.infoInt'
 have HS : Hid (∀ i, ownTo l (i + 1) = if 1 + l.getD i 0 % 30 ∈ ownTo l i then ownTo l i else ownTo l i ++ [1 + l.getD i 0 % 30]) := Lib.hid (fun _ => rfl)
 have HLn : Hid (∀ i, i ≤ 20 → (ownTo l i).length ≤ i) := Lib.hid (fun i hi => (ownTo_ok l i hi).2.2)
 have HOk : Hid (∀ i, i ≤ 20 → OwnOk (ownTo l i)) := Lib.hid (fun i hi => ⟨(ownTo_ok l i hi).1, (ownTo_ok l i hi).2.1, by have := (ownTo_ok l i hi).2.2; omega⟩)
 go_cut [6, 7, 8] from 18 to 51 (fun (x6 x7 x8 : Value) wx => ∃ (i : Nat) (u : Value), i ≤ 20 ∧ Below w.heap.size w wx ∧ NoneM w.heap.size D wx u x6 (ownTo l i) (ownTo l i))
 case first =>
  go_wp2_with fail
  go_loopw [6, 7] (fun x6 x7 X => ∃ (i : Nat) (u : Value), i ≤ len ∧ i ≤ 20 ∧ x7 = .int .i64 i ∧ Below w.heap.size w X ∧ NoneM w.heap.size D X u x6 (ownTo l i) (ownTo l i)) (fun _ x7 _ => len - (intOf x7).toNat)
  case atStart => exact ⟨0, _, Nat.zero_le _, Nat.zero_le _, rfl, hb2, hM0⟩
  case round =>
   clear hM0
   obtain ⟨i, u, hil, hi20, rfl, hb, hM⟩ := hrel
   rename World => W
   obtain ⟨xa, xc, hx6⟩ := row_slice hM.row1
   subst hx6
   by_cases hgo : i < len ∧ i < 20
   · obtain ⟨hlt, hlt2⟩ := hgo
     have i1 : (i : Int) < (len : Int) := by omega
     have i2 : (i : Int) < 20 := by omega
     obtain ⟨b, off, rfl, y0, hwy⟩ := HX.out i hlt
     have c0 := cell_up hb y0
     have hSi := HS.out i
     have hLi := HLn.out i (by omega)
     generalize l.getD i 0 = y at *
     have HWi : Hid (∀ X, Calls Try.prog 20 #[.int .i64 y, .int .i64 30] X fun e w' => e = .returned (.int .i64 (y % 30)) ∧ X = w') := Lib.hid (fun X => within_any y 30 X hwy (by omega) (by omega))
     have hz0 : 0 ≤ y % 30 ∧ y % 30 < 30 := by omega
     generalize y % 30 = z at *
     obtain ⟨hz1, hz2⟩ := hz0
     have hwr : IntKind.i64.wrap (1 + z) = 1 + z := by rw [IntKind.wrap_i64]; omega
     go_upto_region 9 with (first | (go_at_call 20; (with_reducible refine (HWi.out _).mono ?_); rintro e w9 ⟨rfl, rfl⟩))
     rename World => W
     have hkk1 : 1 ≤ 1 + z ∧ 1 + z ≤ 30 := by omega
     clear HWi hwr hz1 hz2 c0 y0 hwy
     generalize 1 + z = kk at *
     obtain ⟨hk1, hk2⟩ := hkk1
     generalize hO : ownTo l i = O at *
     have HSi := Lib.hid hSi
     clear hSi
     by_cases hin : kk ∈ O
     · have HHas : Hid (Calls Try.prog 27 #[.slice xa O.length xc, .int .i64 kk] W fun e w' => e = .returned (.bool true) ∧ W = w') := Lib.hid (by
        have := zhas_any _ O kk W hM.ints
        rw [decide_eq_true hin] at this
        exact this)
       have HR : Hid (ownTo l (i + 1) = O) := Lib.hid (by rw [HSi.out, if_pos hin])
       clear HSi hin HS HLn HOk
       go_wp2_with (first | (go_at_call 27; (with_reducible refine HHas.out.mono ?_); rintro e w9 ⟨rfl, rfl⟩))
       go_round
       case rel => exact ⟨i + 1, u, by omega, by omega, by go_num, hb, by rw [HR.out]; exact hM⟩
       case measure => simp [intOf]; omega
     · have HHas : Hid (Calls Try.prog 27 #[.slice xa O.length xc, .int .i64 kk] W fun e w' => e = .returned (.bool false) ∧ W = w') := Lib.hid (by
        have := zhas_any _ O kk W hM.ints
        rw [decide_eq_false hin] at this
        exact this)
       have HR : Hid (ownTo l (i + 1) = O ++ [kk]) := Lib.hid (by rw [HSi.out, if_neg hin])
       clear HSi hin HS HLn HOk HX
       have hown1 := hM.row1
       have hwb := hb.size
       have ho6 := own_below hown1 ((Below.refl W.heap.size W).alloc (Nat.le_refl _) (.cells #[.int .i64 kk] 3))
       go_upto_region 11 with (first
        | (go_at_call 27; (with_reducible refine HHas.out.mono ?_); rintro e w9 ⟨rfl, rfl⟩)
        | (refine wpList_append_lies _ (by rfl) _ _ _ (by rfl) w.heap.size 3 j0 (.int .i64 0) 1 8 Try.underlying27 hj jz0 jz1 jz2 rfl (by omega) (.slice xa O.length xc) O.length (O.flatMap nIntC) (by rfl) ho6 ⟨W.heap.size, 0, none⟩ 1 1 [.int .i64 kk] (by rfl) (by rfl) (rd_news W _ _) (by simp [Value.oneCell']) (by omega) (by unfold maxLen; omega) (by omega) (by simp; omega) (W.heap.size + 1) (by simp) ?_; intro gg cap2 w6 hown6 hgrow6 hat hlt6))
       have hM6 := (hM.below ((Below.refl W.heap.size W).alloc (Nat.le_refl _) (.cells #[.int .i64 kk] 3))).more1 (k := kk) hown6 hgrow6 (own_new hat (by simp))
       have hb6 : Below w.heap.size w w6 := (hb.trans (((Below.refl W.heap.size W).alloc (Nat.le_refl _) (.cells #[.int .i64 kk] 3)).mono hwb)).grown hgrow6 (by simp; omega) (fun b hb => (hown1.lt b hb).1)
       clear hM hb hown1 ho6 hown6 hgrow6 hat hlt6 HHas
       generalize (Value.slice (some ⟨gg, 0, none⟩) (O.length + 1) cap2) = x6 at *
       have hkc : ((kk.toNat : Nat) : Int) = kk := Int.toNat_of_nonneg (by omega)
       have hds := tN_size ⟨kk.toNat, by omega⟩
       simp only at hds
       have HDg : Hid (∀ X, Calls Try.prog 28 #[.int .i64 kk] X fun e w' => e = .returned (.string (digS kk.toNat)) ∧ Below X.heap.size X w') := Lib.hid (fun X => by
        have := digits_any kk.toNat ⟨by omega, by omega⟩ X
        rw [hkc] at this
        exact this)
       have HMo : Hid (∀ (X w5 : World) (v' : Value), NoneM w.heap.size D X u x6 O (O ++ [kk]) → w5.ownsRow w.heap.size 68 4 v' (O.length + 1) (O.flatMap nSmC ++ [.string (tN kk.toNat), .bool false, .int .i64 kk, .int .i64 0]) → X.grownBy w5 u.ownBlock → (v'.ownBlock = u.ownBlock ∨ v'.ownBlock = some X.heap.size) → NoneM w.heap.size D (w5.setCell ⟨D, 2, none⟩ v') v' x6 (O ++ [kk]) (O ++ [kk])) := Lib.hid (fun X w5 v' h1 h2 h3 h4 => h1.more0 h2 h3 h4)
       have htN : (⟨#[116]⟩ : ByteArray) ++ digS kk.toNat = tN kk.toNat := rfl
       have hno : ¬ 9223372036854775807 < (⟨#[116]⟩ : ByteArray).size + (digS kk.toNat).size := by
        have : (⟨#[116]⟩ : ByteArray).size = 1 := rfl
        omega
       have hno2 : ¬ 9223372036854775807 < 1 + (digS kk.toNat).size := by omega
       have g1 : ∀ W, (Op.stringOp .add (⟨#[116]⟩ : ByteArray) (digS kk.toNat)).run Try.prog W = .ok (.string (tN kk.toNat)) W := fun W => run_string_add_sum W _ _ (by
        have : (⟨#[116]⟩ : ByteArray).size = 1 := rfl
        omega)
       clear hds hkc
       generalize tN kk.toNat = nm at *
       generalize digS kk.toNat = dg at *
       obtain ⟨ua, uc, hu⟩ := row_slice hM6.row0
       subst hu
       have hU := hM6.row0
       have c0 := StW.cell hM6 2
       have z0 := StW.free hM6 2
       have hDl := StW.mlt hM6
       have hne : some D ≠ (Value.slice ua O.length uc).ownBlock := fun h => by
        have := StW.notM hM6 ⟨68, 4, .slice ua O.length uc, O.length, O.flatMap nSmC⟩ (by simp)
        exact this h.symm
       have hw6 := hb6.size
       simp only [List.getElem?_cons_succ, List.getElem?_cons_zero] at c0
       have HU := Lib.hid (fun (X : World) (hX : Below w6.heap.size w6 X) => And.intro (own_below hU hX) (block_below (StW.box hM6) hX hDl))
       have hOl : O.length ≤ 20 := by omega
       clear hU
       go_region_law (first
        | (go_simp; go_at_call 28; (refine (HDg.out _).mono ?_); rintro e w9 ⟨rfl, hb9⟩;
            have h9 : Below w6.heap.size w6 w9 := (Below.refl w6.heap.size w6).drew.trans hb9;
            have c9 : w9.cell? ⟨D, 2, none⟩ = some (.slice ua O.length uc) := cell_up h9 c0;
            have a9 := rdCell_alloc c9 (.cells #[.string nm, .bool false, .int .i64 kk, .int .i64 0] 68);
            have own9 := (HU.out _ h9).1;
            have fr9 : (w9.alloc (.cells #[.string nm, .bool false, .int .i64 kk, .int .i64 0] 68)).frozen? ⟨D, 2, none⟩ = false := free_of_block (heap_put w9 (.cells #[.string nm, .bool false, .int .i64 kk, .int .i64 0] 68) (HU.out _ h9).2);
            have l9 : w9.heap.size < (w9.alloc (.cells #[.string nm, .bool false, .int .i64 kk, .int .i64 0] 68)).heap.size := (by simp))
        | (refine step_append_lies _ (by rfl) _ _ _ (by rfl) w.heap.size 68 i0 (.agg #[.string ByteArray.empty, .bool false, .int .i64 0, .int .i64 0]) 4 40 Try.underlying62 hi iz0 iz1 iz2 rfl (by omega) (.slice ua O.length uc) O.length (O.flatMap nSmC) (by rfl) (own9.alloc _)
            ⟨w9.heap.size, 0, none⟩ 1 1 [.string nm, .bool false, .int .i64 kk, .int .i64 0] (by rfl) (by rfl) (rd_news w9 _ _) (by simp [Value.oneCell'])
            (by omega) (by unfold maxLen; omega) (by omega) (by have := h9.size; simp; omega) (w9.heap.size + 1) (by simp) ?_;
           intro gg2 cap3 w5 hown5 hgrow5 hat5 hlt5;
           have f5 : w5.cell? ⟨D, 2, none⟩ = some (.slice ua O.length uc) := hgrow5.cell a9 hne;
           have r5 : w5.frozen? ⟨D, 2, none⟩ = false := (hgrow5.frozen_far ⟨D, 2, none⟩ (show D < (w9.alloc (.cells #[.string nm, .bool false, .int .i64 kk, .int .i64 0] 68)).heap.size from (by have := h9.size; omega)) hne).trans fr9))
       all_goals
        go_wp2_with fail
        have k9 := h9.alloc h9.size (.cells #[.string nm, .bool false, .int .i64 kk, .int .i64 0] 68)
        have hM9 := HMo.out _ _ _ (hM6.below k9) hown5 hgrow5 (own_new hat5 (by simp))
        have hbz : Below w.heap.size w w5 := (hb6.trans (k9.mono hw6)).grown hgrow5 (by have := k9.size; omega) (fun b hb => ((HU.out _ h9).1.lt b hb).1)
        have hbs := hbz.setCell (p := ⟨D, 2, none⟩) hDw (.slice (some ⟨gg2, 0, none⟩) (O.length + 1) cap3)
        clear HMo k9 hown5 hgrow5 f5 r5 own9 fr9 a9 c9 l9 HU
        go_round
        case rel => exact ⟨i + 1, _, by omega, by omega, by go_num, hbs, by rw [HR.out]; exact hM9⟩
        case measure => simp [intOf]; omega
   · by_cases hlt : i < len
     · have i1 : (i : Int) < (len : Int) := by omega
       have i2 : ¬ (i : Int) < 20 := by omega
       have i2' : decide ((i : Int) < 20) = false := decide_eq_false i2
       clear HX HS HLn HOk
       go_wp2_with fail
       go_meet
       case rel => exact ⟨i, u, hi20, hb, hM⟩
     · have i1 : ¬ (i : Int) < (len : Int) := by omega
       have i1' : decide ((i : Int) < (len : Int)) = false := decide_eq_false i1
       clear HX HS HLn HOk
       go_wp2_with fail
       go_meet
       case rel => exact ⟨i, u, hi20, hb, hM⟩
 case rest =>
  obtain ⟨i, u, hi20, hb, hM⟩ := hcut
  rename World => W
  have hOK := HOk.out i hi20
  generalize ownTo l i = O at *
  clear HX HS HLn HOk hM0
  obtain ⟨xa, xc, hx6⟩ := row_slice hM.row1
  subst hx6
  generalize hOl : O.length = ol at *
  have HOl := Lib.hid hOl
  clear hOl
  have s1 : (W.alloc (.cells #[.slice none 0 0, .string ⟨#[]⟩, .bool false, .int .i64 0, .int .i64 0, .int .i64 0] 71)).heap.size = W.heap.size + 1 := by simp
  have s2 : ((W.alloc (.cells #[.slice none 0 0, .string ⟨#[]⟩, .bool false, .int .i64 0, .int .i64 0, .int .i64 0] 71)).alloc (.cells #[.string ⟨#[115]⟩, .slice (some ⟨W.heap.size, 0, none⟩) 1 1, .int .i64 0] 74)).heap.size = W.heap.size + 1 + 1 := by simp
  have qA := heap_put ((W.alloc (.cells #[.slice none 0 0, .string ⟨#[]⟩, .bool false, .int .i64 0, .int .i64 0, .int .i64 0] 71)).alloc (.cells #[.string ⟨#[115]⟩, .slice (some ⟨W.heap.size, 0, none⟩) 1 1, .int .i64 0] 74)) (.cells #[.string ⟨#[]⟩, .slice none 0 0, .slice (some ⟨W.heap.size + 1, 0, none⟩) 1 1, .string ⟨#[]⟩] 25) (heap_put (W.alloc (.cells #[.slice none 0 0, .string ⟨#[]⟩, .bool false, .int .i64 0, .int .i64 0, .int .i64 0] 71)) (.cells #[.string ⟨#[115]⟩, .slice (some ⟨W.heap.size, 0, none⟩) 1 1, .int .i64 0] 74) (heap_alloc_new W (.cells #[.slice none 0 0, .string ⟨#[]⟩, .bool false, .int .i64 0, .int .i64 0, .int .i64 0] 71)))
  have qR := heap_put ((W.alloc (.cells #[.slice none 0 0, .string ⟨#[]⟩, .bool false, .int .i64 0, .int .i64 0, .int .i64 0] 71)).alloc (.cells #[.string ⟨#[115]⟩, .slice (some ⟨W.heap.size, 0, none⟩) 1 1, .int .i64 0] 74)) (.cells #[.string ⟨#[]⟩, .slice none 0 0, .slice (some ⟨W.heap.size + 1, 0, none⟩) 1 1, .string ⟨#[]⟩] 25) (heap_alloc_new (W.alloc (.cells #[.slice none 0 0, .string ⟨#[]⟩, .bool false, .int .i64 0, .int .i64 0, .int .i64 0] 71)) (.cells #[.string ⟨#[115]⟩, .slice (some ⟨W.heap.size, 0, none⟩) 1 1, .int .i64 0] 74))
  have qS := heap_alloc_new ((W.alloc (.cells #[.slice none 0 0, .string ⟨#[]⟩, .bool false, .int .i64 0, .int .i64 0, .int .i64 0] 71)).alloc (.cells #[.string ⟨#[115]⟩, .slice (some ⟨W.heap.size, 0, none⟩) 1 1, .int .i64 0] 74)) (.cells #[.string ⟨#[]⟩, .slice none 0 0, .slice (some ⟨W.heap.size + 1, 0, none⟩) 1 1, .string ⟨#[]⟩] 25)
  rw [s1] at qR
  rw [s2] at qS
  have hb3 : Below W.heap.size W (((W.alloc (.cells #[.slice none 0 0, .string ⟨#[]⟩, .bool false, .int .i64 0, .int .i64 0, .int .i64 0] 71)).alloc (.cells #[.string ⟨#[115]⟩, .slice (some ⟨W.heap.size, 0, none⟩) 1 1, .int .i64 0] 74)).alloc (.cells #[.string ⟨#[]⟩, .slice none 0 0, .slice (some ⟨W.heap.size + 1, 0, none⟩) 1 1, .string ⟨#[]⟩] 25)) := (((Below.refl W.heap.size W).alloc (Nat.le_refl _) (.cells #[.slice none 0 0, .string ⟨#[]⟩, .bool false, .int .i64 0, .int .i64 0, .int .i64 0] 71)).alloc (by simp) (.cells #[.string ⟨#[115]⟩, .slice (some ⟨W.heap.size, 0, none⟩) 1 1, .int .i64 0] 74)).alloc (by simp; omega) (.cells #[.string ⟨#[]⟩, .slice none 0 0, .slice (some ⟨W.heap.size + 1, 0, none⟩) 1 1, .string ⟨#[]⟩] 25)
  have hM3 := hM.below hb3
  have hbW := hb.trans (hb3.mono hb.size)
  have hS0 : w.heap.size ≤ W.heap.size + 1 + 1 := by have := hb.size; omega
  have hDS : D ≠ W.heap.size + 1 + 1 := by have := StW.mlt hM; omega
  have HNo0 : Hid (∀ b, footS D [⟨68, 4, u, O.length, O.flatMap nSmC⟩, ⟨3, 1, .slice xa ol xc, O.length, O.flatMap nIntC⟩] b → b ≠ W.heap.size + 1 + 1) := Lib.hid (fun b hb => by have := (StW.lt hM b hb).2; omega)
  have hRS : W.heap.size + 1 ≠ W.heap.size + 1 + 1 := by omega
  have hAS : W.heap.size ≠ W.heap.size + 1 + 1 := by omega
  clear hM hb hb3 s1 s2
  go_upto_if 59 with fail
  generalize (((W.alloc (.cells #[.slice none 0 0, .string ⟨#[]⟩, .bool false, .int .i64 0, .int .i64 0, .int .i64 0] 71)).alloc (.cells #[.string ⟨#[115]⟩, .slice (some ⟨W.heap.size, 0, none⟩) 1 1, .int .i64 0] 74)).alloc (.cells #[.string ⟨#[]⟩, .slice none 0 0, .slice (some ⟨W.heap.size + 1, 0, none⟩) 1 1, .string ⟨#[]⟩] 25)) = V3 at *
  have hlS := lt_of_block qS
  generalize W.heap.size + 1 + 1 = Sx at *
  generalize W.heap.size + 1 = Rb at *
  generalize W.heap.size = Ab at *
  have HNo : Hid (∀ b, footS D [⟨68, 4, u, O.length, O.flatMap nSmC⟩, ⟨3, 1, .slice xa ol xc, O.length, O.flatMap nIntC⟩] b → b ≠ Sx) := HNo0
  have hRl : RlsV V3 (.slice (some ⟨Rb, 0, none⟩) 1 1) [⟨sB, [noAl], 0⟩] := one_list qR rfl ⟨_, rfl, one_list qA rfl ⟨_, rfl, ListV.nil _ _ _⟩⟩
  go_cut [] from 57 to 62 (fun wx => ∃ (da : Option Addr) (dn dc : Nat), wx.heap[Sx]? = some (.cells #[.string ⟨#[]⟩, .slice da dn dc, .slice (some ⟨Rb, 0, none⟩) 1 1, .string ⟨#[]⟩] 25 (0, 0)) ∧ SoV wx (.agg #[.string ⟨#[]⟩, .slice da dn dc, .slice (some ⟨Rb, 0, none⟩) 1 1, .string ⟨#[]⟩]) (noneS O) ∧ Below w.heap.size w wx ∧ IntsV wx (.slice xa ol xc) O)
  case first =>
   by_cases h0 : ol = 0
   · have j1 : ¬ (ol : Int) > 0 := by omega
     have j3 : decide (0 < ol) = false := decide_eq_false (by omega)
     (try simp only [j3])
     have hI := hM3.ints
     have hSo : SoV V3 (.agg #[.string ⟨#[]⟩, .slice none 0 0, .slice (some ⟨Rb, 0, none⟩) 1 1, .string ⟨#[]⟩]) (noneS O) := by
      refine ⟨_, _, rfl, ?_, hRl⟩
      have e : (noneS O).decls = [] := by unfold noneS; simp only; rw [if_pos (HOl.out.trans h0)]
      rw [e]; exact ListV.nil _ _ _
     clear h0
     go_wp2_with fail
     go_meet
     case rel => exact ⟨none, 0, 0, qS, hSo, hbW, hI⟩
   · have j1 : (ol : Int) > 0 := by omega
     have j2 : 0 < ol := by omega
     have j3 : decide (0 < ol) = true := decide_eq_true j2
     have j4 : decide ((ol : Int) > 0) = true := decide_eq_true j1
     (try simp only [j3])
     have c0 := StW.cell hM3 0
     have c1 := StW.cell hM3 1
     have c2 := StW.cell hM3 2
     have c3 := StW.cell hM3 3
     have z1 : V3.frozen? ⟨Sx, 1, none⟩ = false := free_of_block qS
     have x1 := cell_of_row _ _ 1 _ _ _ qS
     simp only [List.getElem?_toArray, List.getElem?_cons_succ, List.getElem?_cons_zero] at c0 c1 c2 c3 x1
     generalize hVs : (Value.slice (some ⟨V3.heap.size, 0, none⟩) 1 1) = dv
     have HVs := Lib.hid hVs
     clear hVs
     have hset : ∀ b, b ≠ Sx → (V3.setCell ⟨Sx, 1, none⟩ dv).heap[b]? = V3.heap[b]? := fun b hb => Below.heap_setCell _ _ _ b hb
     have hsz : (V3.setCell ⟨Sx, 1, none⟩ dv).heap.size = V3.heap.size := by simp
     have qS2 := heap_put (V3.setCell ⟨Sx, 1, none⟩ dv) (.cells #[.int .i64 1, .string ⟨#[]⟩, u, .int .i64 0] 64) (block_setCell (j := 1) (u := dv) qS)
     have qD := heap_new (V3.setCell ⟨Sx, 1, none⟩ dv) #[.int .i64 1, .string ⟨#[]⟩, u, .int .i64 0] 64 V3.heap.size hsz.symm
     have kD := (Below.refl (V3.setCell ⟨Sx, 1, none⟩ dv).heap.size (V3.setCell ⟨Sx, 1, none⟩ dv)).alloc (Nat.le_refl _) (.cells #[.int .i64 1, .string ⟨#[]⟩, u, .int .i64 0] 64)
     have hx1 : NoneM w.heap.size D ((V3.setCell ⟨Sx, 1, none⟩ dv).alloc (.cells #[.int .i64 1, .string ⟨#[]⟩, u, .int .i64 0] 64)) u (.slice xa ol xc) O O := NoneM.below (StW.keep hM3 (by simp) (fun b hb => hset b (HNo.out b hb))) kD
     have hI := NoneM.ints hx1
     have hSy := NoneM.syms hx1
     have hR2 : RlsV ((V3.setCell ⟨Sx, 1, none⟩ dv).alloc (.cells #[.int .i64 1, .string ⟨#[]⟩, u, .int .i64 0] 64)) (.slice (some ⟨Rb, 0, none⟩) 1 1) [⟨sB, [noAl], 0⟩] := one_list (heap_put _ (.cells #[.int .i64 1, .string ⟨#[]⟩, u, .int .i64 0] 64) ((hset Rb hRS).trans qR)) rfl ⟨_, rfl, one_list (heap_put _ (.cells #[.int .i64 1, .string ⟨#[]⟩, u, .int .i64 0] 64) ((hset Ab hAS).trans qA)) rfl ⟨_, rfl, ListV.nil _ _ _⟩⟩
     have hSo : SoV ((V3.setCell ⟨Sx, 1, none⟩ dv).alloc (.cells #[.int .i64 1, .string ⟨#[]⟩, u, .int .i64 0] 64)) (.agg #[.string ⟨#[]⟩, .slice (some ⟨V3.heap.size, 0, none⟩) 1 1, .slice (some ⟨Rb, 0, none⟩) 1 1, .string ⟨#[]⟩]) (noneS O) := by
      refine ⟨_, _, rfl, ?_, hR2⟩
      have e : (noneS O).decls = [noneD O] := by unfold noneS; simp only; rw [if_neg (fun e => h0 (HOl.out.symm.trans e))]
      rw [e]
      exact one_list qD rfl ⟨_, rfl, hSy⟩
     have hbz := (hbW.setCell (p := ⟨Sx, 1, none⟩) hS0 dv).trans (kD.mono (by rw [hsz]; exact hbW.size))
     have hvs := HVs.out
     subst hvs
     clear h0 hx1 hSy hR2 hM3 hset qD HVs hsz kD
     go_wp2_with fail
     go_meet
     case rel => exact ⟨_, _, _, qS2, hSo, hbz, hI⟩
  case rest =>
   obtain ⟨da, dn, dc, hrS, hSo, hbS, hIv⟩ := hcut
   rename World => V5
   clear hM3 hRl HNo0 HNo qA qR qS hlS hDS hRS hAS hbW hS0
   obtain ⟨hsm, hsb⟩ := none_small hOK
   obtain ⟨hok, _⟩ := none_ok hOK
   obtain ⟨hNW, hTl, hT0, hT2, hT3⟩ := none_tok hOK
   have HBd := Lib.hid hOK.bd
   have hOl := hOK.ln
   have HGr : Hid (Calls Try.prog 13 #[.agg #[.string ⟨#[]⟩, .slice da dn dc, .slice (some ⟨Rb, 0, none⟩) 1 1, .string ⟨#[]⟩]] V5 (GrGo (noneS O) V5)) := Lib.hid (grammar_any hSo hsm hsb)
   unfold GrGo at HGr
   rw [hok] at HGr
   clear hsm hsb hok hSo hOK
   generalize gmOf (noneS O) = g at *
   generalize hpr : g.pro = pr at HGr
   generalize htl : g.tail = tl at HGr
   have x0 := cell_of_row _ _ 0 _ _ _ hrS
   have x1 := cell_of_row _ _ 1 _ _ _ hrS
   have x2 := cell_of_row _ _ 2 _ _ _ hrS
   have x3 := cell_of_row _ _ 3 _ _ _ hrS
   simp only [List.getElem?_toArray, List.getElem?_cons_succ, List.getElem?_cons_zero] at x0 x1 x2 x3
   go_upto_region 16 with (first | (go_at_call 13; (with_reducible refine HGr.out.mono ?_); rintro e w3 ⟨t, n, p, m1, d1, m2, d2, m3, d3, S, rfl, hFg, hSg, hb3⟩))
   have hk4 : Below w3.heap.size w3 (w3.alloc (.cells #[.slice t m1 d1, .slice n m2 d2, .slice p m3 d3, .string pr, .string tl] 38)) := (Below.refl _ _).alloc (Nat.le_refl _) _
   have hrN := ofMade w3 #[.slice t m1 d1, .slice n m2 d2, .slice p m3 d3, .string pr, .string tl] 38 w3.heap.size rfl
   have hFg4 := hFg.below hk4
   have hb34 := hb3.trans (hk4.mono hb3.size)
   have hI4 := hIv.below hb34
   have hbr4 := hbS.trans (hb34.mono hbS.size)
   clear HGr hFg hb3 hk4 x0 x1 x2 x3 hSg hrS hb34 hIv hbS
   generalize w3.alloc (.cells #[.slice t m1 d1, .slice n m2 d2, .slice p m3 d3, .string pr, .string tl] 38) = W4 at *
   generalize w3.heap.size = Bg at *
   have HG : Hid (∀ X, Below W4.heap.size W4 X → GmO X t n p m1 d1 m2 d2 m3 d3 pr tl g ∧ X.cell? ⟨Bg, 0, none⟩ = some (.slice t m1 d1) ∧ X.cell? ⟨Bg, 1, none⟩ = some (.slice n m2 d2) ∧ X.cell? ⟨Bg, 2, none⟩ = some (.slice p m3 d3) ∧ X.cell? ⟨Bg, 3, none⟩ = some (.string pr) ∧ X.cell? ⟨Bg, 4, none⟩ = some (.string tl)) := Lib.hid (fun X hX => by
    have hr := (hX.block Bg (Array.getElem?_eq_some_iff.1 hrN).1).trans hrN
    refine ⟨(hFg4.below hX).self, cell_of_row X _ 0 _ _ _ hr, cell_of_row X _ 1 _ _ _ hr, cell_of_row X _ 2 _ _ _ hr, cell_of_row X _ 3 _ _ _ hr, cell_of_row X _ 4 _ _ _ hr⟩)
   clear hFg4 hrN hpr htl
   obtain ⟨hGm, z0, z1, z2, z3, z4⟩ := HG.out W4 (Below.refl _ _)
   have HYa := Lib.hid (fun (X : World) (hX : Below W4.heap.size W4 X) => (HG.out X hX).2.1)
   have hm1 : g.toks.length = m1 := by
    obtain ⟨a1, l1, q1, e1, hl1, _, _, _⟩ := hGm.tk.open
    cases e1
    exact hl1.out.symm
   have HYt : Hid (∀ i, i < m1 → ∃ b o, t = some ⟨b, o, none⟩ ∧ ∀ X, Below W4.heap.size W4 X → X.cell? ⟨b, o + i * 6, none⟩ = some (.string (g.toks.getD i noTk).name)) := by
    obtain ⟨a1, l1, q1, e1, hl1, _, _, hx1⟩ := hGm.tk.open
    cases e1
    exact Lib.hid (fun i hi => by
     obtain ⟨b, o, e, y0, y1, y2, y3, y4, y5⟩ := hx1.out i hi
     exact ⟨b, o, e, fun X hX => cell_up hX y0⟩)
   have HOf := Lib.hid (numsOf_any hGm hNW (by omega))
   have hm1' : m1 = 3 + O.length := by rw [← hm1]; exact hTl
   have HM1 := Lib.hid hm1'
   have HTl := Lib.hid hTl
   clear hGm hm1 HG hm1' hTl
   go_upto_region 17 with (first | (go_at_call 24; (with_reducible refine HOf.out.mono ?_); rintro e W5 ⟨v, ll, rfl, hl, hll, hv, hb7⟩))
   have HTk : Hid (∀ X, Below W5.heap.size W5 X → ∀ q : Int, Calls Try.prog 25 #[v, .int .i64 q] X fun e w' => e = .returned (.int .i64 (tokN g.toks q)) ∧ Below X.heap.size X w') := Lib.hid (fun X hX q => by
    rw [← tok_same hNW hl q]
    exact numTok_any (hv.below hX) hl.1 (by rw [hll]; have := HTl.out; omega) q)
   have HT0 := Lib.hid hT0
   have HT2 := Lib.hid hT2
   have HT3 := Lib.hid hT3
   have HIv : Hid (∀ X, Below W5.heap.size W5 X → ∀ q : Int, Calls Try.prog 27 #[.slice xa ol xc, .int .i64 q] X fun e w' => e = .returned (.bool (decide (q ∈ O))) ∧ X = w') := Lib.hid (fun X hX q => zhas_any _ O q X (hI4.below (hb7.trans (hX.mono hb7.size))))
   clear HOf hl hll hv hNW hT0 hT2 hT3 hI4 z0 z1 z2 z3 z4
   go_wp2_with fail
   go_loopw [13] (fun x13 X => ∃ q : Nat, q ≤ 37 ∧ x13 = .int .i64 ((q : Int) - 3) ∧ Below W5.heap.size W5 X) (fun x13 _ => 37 - (intOf x13 + 3).toNat)
   case atStart => exact ⟨0, Nat.zero_le _, by rfl, Below.refl _ _⟩
   case round =>
    obtain ⟨q, hq, rfl, hbq⟩ := hrel
    rename World => U
    have hu4 := hb7.trans (hbq.mono hb7.size)
    by_cases hql : q < 37
    · have hkb : -3 ≤ (q : Int) - 3 ∧ (q : Int) - 3 < 34 := by omega
      generalize hkq : (q : Int) - 3 = k at *
      have HK : Hid (((q + 1 : Nat) : Int) - 3 = k + 1) := Lib.hid (by omega)
      have HK2 : Hid (k + 3 = (q : Int)) := Lib.hid (by omega)
      clear hkq
      obtain ⟨hkl, hku⟩ := hkb
      have HHq : Hid (∀ X, Below U.heap.size U X → Calls Try.prog 27 #[.slice xa ol xc, .int .i64 k] X fun e w' => e = .returned (.bool (decide (k ∈ O))) ∧ X = w') := Lib.hid (fun X hX => HIv.out X (hbq.trans (hX.mono hbq.size)) k)
      have HTq0 := Lib.hid (HTk.out U hbq k)
      by_cases hk0 : k ≤ 0
      · have hno : k ∉ O := fun h => by have := (HBd.out k h).1; omega
        have HTq : Hid (Calls Try.prog 25 #[v, .int .i64 k] U fun e w' => e = .returned (.int .i64 0) ∧ Below U.heap.size U w') := Lib.hid (by have := HTq0.out; rw [HT0.out k hk0] at this; exact this)
        have i3 : ¬ k > 0 := by omega
        have i3' : decide (k > 0) = false := decide_eq_false i3
        have i3'' : decide (0 < k) = false := decide_eq_false i3
        rw [decide_eq_false hno] at HHq
        clear HTq0 HIv HTk HT0 HT2 HT3 HYt HYa HBd hno
        go_upto_region 25 with (first | (go_at_call 25; (with_reducible refine HTq.out.mono ?_); rintro e W8 ⟨rfl, hb8⟩))
        have HHs := Lib.hid (fun (V : World) => (HHq.out (over W8 V) (hb8.trans ((over_below W8 V).mono hb8.size))).mono (fun e w' h => (⟨h.1, h.2 ▸ Below.refl _ _⟩ : e = .returned (.bool false) ∧ Below (over W8 V).heap.size (over W8 V) w')))
        refine wp_region_over (by kernel_rfl) (by kernel_rfl) ?_
        repeat (first | go_big_quiet_skip | (go_big_quiet_want; go_big_quiet_op; first | go_big_quiet_on | (apply Exists.intro; refine ⟨fun _ => ?_, ?_⟩; (first | (go_at_call 27; exact calls_over (HHs.out _) (fun e w1 h => h))); go_big_quiet_on)))
        refine wpQuiet_nil ?_
        intro _ hw'
        obtain ⟨V9, hw''⟩ := hw'
        subst hw''
        have hz := over_below W8 V9
        generalize over W8 V9 = W9 at hz ⊢
        have hb9 := (hbq.trans (hb8.mono hbq.size)).trans (hz.mono (hbq.trans (hb8.mono hbq.size)).size)
        go_wp2_with fail
        go_round
        case rel => exact ⟨q + 1, by omega, by rw [HK.out], hb9⟩
        case measure => have := HK2.out; simp only [intOf]; omega
      · have i2 : ¬ k ≤ 0 := hk0
        have i2' : decide (k ≤ 0) = false := decide_eq_false hk0
        have i3 : k > 0 := by omega
        have i3' : 0 < k := by omega
        by_cases hin : k ∈ O
        · obtain ⟨j, hj, hT, hnm⟩ := HT3.out k hin
          obtain ⟨hk1, hk30⟩ := HBd.out k hin
          have hT2 : tokN g.toks k = ((3 + j : Nat) : Int) := by rw [hT]; omega
          have hjj : 3 ≤ 3 + j ∧ 3 + j < m1 := by have := HM1.out; omega
          obtain ⟨tb, tof, rfl, htc⟩ := HYt.out (3 + j) hjj.2
          have HTq : Hid (Calls Try.prog 25 #[v, .int .i64 k] U fun e w' => e = .returned (.int .i64 ((3 + j : Nat) : Int)) ∧ Below U.heap.size U w') := Lib.hid (by have := HTq0.out; rw [hT2] at this; exact this)
          rw [hnm] at htc
          clear hT hT2 hnm
          generalize 3 + j = jj at *
          obtain ⟨hj3, hjm⟩ := hjj
          have j1 : ¬ (jj : Int) < 3 := by omega
          have j1' : decide ((jj : Int) < 3) = false := decide_eq_false j1
          have j2 : ¬ (jj : Int) ≥ (m1 : Int) := by omega
          have j2' : decide ((jj : Int) ≥ (m1 : Int)) = false := decide_eq_false j2
          have j3 : (jj : Int) < (m1 : Int) := by omega
          have j4 : decide (m1 ≤ jj) = false := decide_eq_false (by omega)
          have j5 : decide ((m1 : Int) ≤ (jj : Int)) = false := decide_eq_false (by omega)
          have j6 : decide (jj < 3) = false := decide_eq_false (by omega)
          have HTc := Lib.hid htc
          have hkc : ((k.toNat : Nat) : Int) = k := Int.toNat_of_nonneg (by omega)
          have hds := tN_size ⟨k.toNat, by omega⟩
          simp only at hds
          have HDg0 : Hid (∀ X, Calls Try.prog 28 #[.int .i64 k] X fun e w' => e = .returned (.string (digS k.toNat)) ∧ Below X.heap.size X w') := Lib.hid (fun X => by
           have := digits_any k.toNat ⟨by omega, by omega⟩ X
           rw [hkc] at this
           exact this)
          have htN : (⟨#[116]⟩ : ByteArray) ++ digS k.toNat = tN k.toNat := rfl
          have hno : ¬ 9223372036854775807 < (⟨#[116]⟩ : ByteArray).size + (digS k.toNat).size := by
           have : (⟨#[116]⟩ : ByteArray).size = 1 := rfl
           omega
          have hno2 : ¬ 9223372036854775807 < 1 + (digS k.toNat).size := by omega
          have g1 : ∀ W, (Op.stringOp .add (⟨#[116]⟩ : ByteArray) (digS k.toNat)).run Try.prog W = .ok (.string (tN k.toNat)) W := fun W => run_string_add_sum W _ _ (by
           have : (⟨#[116]⟩ : ByteArray).size = 1 := rfl
           omega)
          rw [decide_eq_true hin] at HHq
          clear HTq0 HIv HTk HT0 HT2 HT3 HYt HBd hds hkc hin hk1 hk30 htc
          generalize tN k.toNat = nm at *
          generalize digS k.toNat = dg at *
          go_upto_region 25 with (first | (go_at_call 25; (with_reducible refine HTq.out.mono ?_); rintro e W8 ⟨rfl, hb8⟩) | (go_at_call 27; (with_reducible refine (HHq.out _ hb8).mono ?_); rintro e w9 ⟨rfl, rfl⟩))
          have hb8U := hbq.trans (hb8.mono hbq.size)
          have hu8 := hb7.trans (hb8U.mono hb7.size)
          have y3 := HYa.out W8 hu8
          have y4 := HTc.out W8 hu8
          have v0 := over_cell y3
          have v1 := over_cell y4
          have HHs := Lib.hid (fun (V : World) => (HHq.out (over W8 V) (hb8.trans ((over_below W8 V).mono hb8.size))).mono (fun e w' h => (⟨h.1, h.2 ▸ Below.refl _ _⟩ : e = .returned (.bool true) ∧ Below (over W8 V).heap.size (over W8 V) w')))
          have HDg := Lib.hid (fun (V : World) => HDg0.out (over W8 V))
          clear y3 y4
          refine wp_region_over (by kernel_rfl) (by kernel_rfl) ?_
          repeat (first | go_big_quiet_skip | (go_big_quiet_want; go_big_quiet_op; first | go_big_quiet_on | (apply Exists.intro; refine ⟨fun _ => ?_, ?_⟩; (first | (go_at_call 27; exact calls_over (HHs.out _) (fun e w1 h => h)) | (go_at_call 28; exact calls_over (HDg.out _) (fun e w1 h => h))); go_big_quiet_on)))
          refine wpQuiet_nil ?_
          intro _ hw'
          obtain ⟨V9, hw''⟩ := hw'
          subst hw''
          have hz := over_below W8 V9
          generalize over W8 V9 = W9 at hz ⊢
          have hb9 := hb8U.trans (hz.mono hb8U.size)
          go_wp2_with fail
          go_round
          case rel => exact ⟨q + 1, by omega, by rw [HK.out], hb9⟩
          case measure => have := HK2.out; simp only [intOf]; omega
        · have HTq : Hid (Calls Try.prog 25 #[v, .int .i64 k] U fun e w' => e = .returned (.int .i64 2) ∧ Below U.heap.size U w') := Lib.hid (by have := HTq0.out; rw [HT2.out k i3 hin] at this; exact this)
          rw [decide_eq_false hin] at HHq
          clear HTq0 HIv HTk HT0 HT2 HT3 HYt HYa HBd hin
          go_upto_region 25 with (first | (go_at_call 25; (with_reducible refine HTq.out.mono ?_); rintro e W8 ⟨rfl, hb8⟩) | (go_at_call 27; (with_reducible refine (HHq.out _ hb8).mono ?_); rintro e w9 ⟨rfl, rfl⟩))
          have HHs := Lib.hid (fun (V : World) => (HHq.out (over W8 V) (hb8.trans ((over_below W8 V).mono hb8.size))).mono (fun e w' h => (⟨h.1, h.2 ▸ Below.refl _ _⟩ : e = .returned (.bool false) ∧ Below (over W8 V).heap.size (over W8 V) w')))
          refine wp_region_over (by kernel_rfl) (by kernel_rfl) ?_
          repeat (first | go_big_quiet_skip | (go_big_quiet_want; go_big_quiet_op; first | go_big_quiet_on | (apply Exists.intro; refine ⟨fun _ => ?_, ?_⟩; (first | (go_at_call 27; exact calls_over (HHs.out _) (fun e w1 h => h))); go_big_quiet_on)))
          refine wpQuiet_nil ?_
          intro _ hw'
          obtain ⟨V9, hw''⟩ := hw'
          subst hw''
          have hz := over_below W8 V9
          generalize over W8 V9 = W9 at hz ⊢
          have hb9 := (hbq.trans (hb8.mono hbq.size)).trans (hz.mono (hbq.trans (hb8.mono hbq.size)).size)
          go_wp2_with fail
          go_round
          case rel => exact ⟨q + 1, by omega, by rw [HK.out], hb9⟩
          case measure => have := HK2.out; simp only [intOf]; omega
    · have i1 : ¬ (q : Int) - 3 < 34 := by omega
      have HTq0 := Lib.hid (HTk.out U hbq nn)
      have hfin := hbr4.trans (hu4.mono hbr4.size)
      by_cases hn0 : nn ≤ 0
      · have HTq : Hid (Calls Try.prog 25 #[v, .int .i64 nn] U fun e w' => e = .returned (.int .i64 0) ∧ Below U.heap.size U w') := Lib.hid (by have := HTq0.out; rw [HT0.out nn hn0] at this; exact this)
        clear HTq0 HIv HTk HT0 HT2 HT3 HYt HYa HBd
        go_wp2_with (first | (go_at_call 25; (with_reducible refine HTq.out.mono ?_); rintro e W8 ⟨rfl, hb8⟩))
        go_ret
        exact ⟨rfl, hfin.trans (hb8.mono hfin.size)⟩
      · have i2' : decide (nn ≤ 0) = false := decide_eq_false hn0
        by_cases hin : nn ∈ O
        · obtain ⟨j, hj, hT, hnm⟩ := HT3.out nn hin
          have hT2 : tokN g.toks nn = ((3 + j : Nat) : Int) := by rw [hT]; omega
          have HTq : Hid (Calls Try.prog 25 #[v, .int .i64 nn] U fun e w' => e = .returned (.int .i64 ((3 + j : Nat) : Int)) ∧ Below U.heap.size U w') := Lib.hid (by have := HTq0.out; rw [hT2] at this; exact this)
          have hjz : (((3 + j : Nat) : Int) == 0) = false := by rw [beq_eq_false_iff_ne]; omega
          clear HTq0 HIv HTk HT0 HT2 HT3 HYt HYa HBd hT hT2 hnm hin
          generalize ((3 + j : Nat) : Int) = jj at *
          go_wp2_with (first | (go_at_call 25; (with_reducible refine HTq.out.mono ?_); rintro e W8 ⟨rfl, hb8⟩))
          go_ret
          exact ⟨rfl, hfin.trans (hb8.mono hfin.size)⟩
        · have HTq : Hid (Calls Try.prog 25 #[v, .int .i64 nn] U fun e w' => e = .returned (.int .i64 2) ∧ Below U.heap.size U w') := Lib.hid (by have := HTq0.out; rw [HT2.out nn (by omega) hin] at this; exact this)
          clear HTq0 HIv HTk HT0 HT2 HT3 HYt HYa HBd hin
          go_wp2_with (first | (go_at_call 25; (with_reducible refine HTq.out.mono ?_); rintro e W8 ⟨rfl, hb8⟩))
          go_ret
          exact ⟨rfl, hfin.trans (hb8.mono hfin.size)⟩
theorem numsNone_law (v : Value) (l : List Int) (n : Int) {w : World} (h : IntsV w v l ∧ ∀ x ∈ l, (Lit.int .i64 x).wf = true) (hn : (Lit.int .i64 n).wf = true) :
  Calls Try.prog 9 #[v, .int .i64 n] w fun e w' => e = .returned (.bool true) ∧ Below w.heap.size w w' := by
 obtain ⟨a, m, c, rfl, _⟩ := h.1.open
 exact numsNone_any n h.1 h.2 hn
end Go.Proofs.Ytkgbifbbpmdpgaa
