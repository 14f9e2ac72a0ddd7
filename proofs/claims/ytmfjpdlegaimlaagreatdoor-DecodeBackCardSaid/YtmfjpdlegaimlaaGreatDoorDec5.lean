/- The document's line. -/
import Derived.Test.YtmfjpdlegaimlaaGreatDoorDec4
import Derived.Deep.Cut
import Derived.Deep.CutBlock
import Derived.Deep.CutRange
import Derived.Outline
namespace Go.Proofs.YtmfjpdlegaimlaaGreatDoor
open Go.RowKit
set_option linter.unusedVariables false
set_option linter.unusedSimpArgs false

/-- the place behind the letters -/
def letF (n : Nat) (g : Nat → Int) (i : Nat) : Nat := if i < n ∧ letB (g i) = true then letF n g (i + 1) else i
  termination_by n - i
theorem letF_bd (n : Nat) (g : Nat → Int) (i : Nat) (hi : i ≤ n) : i ≤ letF n g i ∧ letF n g i ≤ n := by
  fun_induction letF n g i with
  | case1 i h ih => have := ih (by omega); omega
  | case2 i h => omega
theorem digF_pre (n : Nat) (g : Nat → Int) (i : Nat) : ∀ j, i ≤ j → j < digF n g i → digB (g j) = true := by
  fun_induction digF n g i with
  | case1 i h ih =>
    intro j h1 h2
    by_cases hj : j = i
    · rw [hj]; exact h.2
    · exact ih j (by omega) h2
  | case2 i h => intro j h1 h2; omega
theorem numR_bd (n : Nat) (g : Nat → Int) (i : Nat) (hi : i ≤ n) : numR n g i = (0, -1) ∨ ∃ (d : Nat) (v : Int), 0 < d ∧ i + d ≤ n ∧ numR n g i = (v, ((i + d : Nat) : Int)) ∧ 0 ≤ v ∧ v < 1000000000 := by
  unfold numR
  have hb := digF_bd n g i hi
  have hp := digF_pre n g i
  split
  · exact .inl rfl
  · rename_i h
    have hd : digN n g i ≤ 9 ∧ i + digN n g i ≤ digF n g i := by unfold digN; omega
    obtain ⟨h1, h2⟩ := valR_bd g i (digN n g i) (fun j hj => hp (i + j) (by omega) (by omega))
    have h3 : (10 : Int) ^ digN n g i ≤ 10 ^ 9 := by
      have : (10 : Nat) ^ digN n g i ≤ 10 ^ 9 := Nat.pow_le_pow_right (by decide) hd.1
      exact_mod_cast this
    exact .inr ⟨digN n g i, _, by omega, by omega, rfl, h1, by omega⟩
/-- numbers one behind the other -/
def seqP (e : Nat) (MI SEP : Nat → Bool) (NR : Nat → Int × Int) : Nat → Nat → Option (List Int)
  | 0, _ => none
  | f + 1, i =>
    if i < e ∧ MI i = true then
      (if (NR (i + 1)).2 < 0 ∨ (NR (i + 1)).1 = 0 then none
       else if (NR (i + 1)).2 = e then some [-(NR (i + 1)).1]
       else if (e : Int) - (NR (i + 1)).2 < 2 ∨ SEP (NR (i + 1)).2.toNat = false then none
       else (seqP e MI SEP NR f ((NR (i + 1)).2.toNat + 2)).map (-(NR (i + 1)).1 :: ·))
    else
      (if (NR i).2 < 0 then none
       else if (NR i).2 = e then some [(NR i).1]
       else if (e : Int) - (NR i).2 < 2 ∨ SEP (NR i).2.toNat = false then none
       else (seqP e MI SEP NR f ((NR i).2.toNat + 2)).map ((NR i).1 :: ·))
def minAt (s : ByteArray) (i : Nat) : Bool := gAt s i == 45
def sepAt (s : ByteArray) (i : Nat) : Bool := (s.extract i (i + 2)).toList == [44, 32]
def varB (s : ByteArray) : Bool := (s.extract 0 4).toList == [118, 97, 114, 32]
def midB (s : ByteArray) (a : Nat) : Bool := (s.extract a (a + 9)).toList == [32, 61, 32, 91, 93, 105, 110, 116, 123]
def numAt (s : ByteArray) (i : Nat) : Int × Int := numR (s.size - 1) (gAt (s.extract 0 (s.size - 1))) i
def refA (s : ByteArray) : Nat := letF s.size (gAt s) 4
def refL (s : ByteArray) : Option (ByteArray × List Int) :=
  if 5 ≤ s.size ∧ varB s = true ∧ 4 < refA s ∧ refA s + 10 ≤ s.size ∧ midB s (refA s) = true ∧ gAt s (s.size - 1) = 125 then
    (if refA s + 9 = s.size - 1 then some (s.extract 4 (refA s), [])
     else (seqP (s.size - 1) (minAt s) (sepAt s) (numAt s) (s.size + 1) (refA s + 9)).map (s.extract 4 (refA s), ·))
  else none
theorem numAt_any (s : ByteArray) (i : Nat) (w : World) (hi : i ≤ s.size - 1) (hs : s.size ≤ 100000) :
    Calls Tryz.prog 39 #[.string (s.extract 0 (s.size - 1)), .int .i64 i, .int .i64 9] w fun e w' => e = .returned (.tuple #[.int .i64 (numAt s i).1, .int .i64 (numAt s i).2]) ∧ w = w' := by
  have hz : (s.extract 0 (s.size - 1)).size = s.size - 1 := by rw [ByteArray.size_extract]; omega
  have h := numeral_any (s.extract 0 (s.size - 1)) i w (by omega) (by omega)
  rw [hz] at h
  exact h
theorem numAt_bd (s : ByteArray) (i : Nat) (hi : i ≤ s.size - 1) : numAt s i = (0, -1) ∨ ∃ (d : Nat) (v : Int), 0 < d ∧ i + d ≤ s.size - 1 ∧ numAt s i = (v, ((i + d : Nat) : Int)) ∧ 0 ≤ v ∧ v < 1000000000 := numR_bd _ _ i hi

set_option maxRecDepth 100000 in
set_option maxHeartbeats 4000000 in
theorem refL_any (s : ByteArray) (w : World) (hs : s.size ≤ 100000) :
    Calls Tryz.prog 17 #[.string s] w fun e w' => ∃ v, e = .returned (.tuple #[.string (nmOf (refL s)), v, .bool (refL s).isSome]) ∧ IntsV w' v (lsOf (refL s)) ∧ Below w.heap.size w w' := by
  have hg := fun j h => gAt_get s j h
  have HNum := Lib.hid (fun (W : World) (i : Nat) (hi : i ≤ s.size - 1) => numAt_any s i W hi hs)
  have HBd := Lib.hid (fun (i : Nat) (hi : i ≤ s.size - 1) => numAt_bd s i hi)
  have HMI : Hid (∀ i, minAt s i = (gAt s i == 45)) := Lib.hid (fun i => rfl)
  have HSE : Hid (∀ i, sepAt s i = ((s.extract i (i + 2)).toList == [44, 32])) := Lib.hid (fun i => rfl)
  have HMB : Hid (∀ i, midB s i = ((s.extract i (i + 9)).toList == [32, 61, 32, 91, 93, 105, 110, 116, 123])) := Lib.hid (fun i => rfl)
  have HV : Hid (varB s = ((s.extract 0 4).toList == [118, 97, 114, 32])) := Lib.hid rfl
  have HA : Hid (refA s = letF s.size (gAt s) 4) := Lib.hid rfl
  have H0 : Hid (refL s = refL s) := Lib.hid rfl
  generalize hR : refL s = R at H0 ⊢
  unfold refL at hR
  have HR := Lib.hid hR.symm
  clear H0 hR
  generalize numAt s = NR at *
  generalize minAt s = MI at *
  generalize sepAt s = SE at *
  generalize midB s = MB at *
  generalize refA s = A at *
  generalize gAt s = g at *
  obtain ⟨i0, hi0, hz0, hz1, hz2⟩ := info_parts Tryz.infoIntD
  by_cases h5 : 5 ≤ s.size ∧ varB s = true
  · obtain ⟨h5, hv⟩ := h5
    have hv' := hv
    rw [HV.out] at hv'
    have h5i : ¬ ((s.size : Int) < 5) := by omega
    go_enter Tryz.func17, Tryz.ntmps17
    go_upto_block 0 with fail
    go_cut [5] from 21 to 50 (fun x wx => x = .int .i64 A ∧ wx = w ∧ 4 ≤ A ∧ A ≤ s.size)
    case first =>
      go_wp2_with fail
      go_loop [5] (fun x => ∃ k : Nat, 4 ≤ k ∧ k ≤ s.size ∧ x = .int .i64 k ∧ Hid (A = letF s.size g k)) (fun x => s.size + 1 - (intOf x).toNat)
      case atStart => exact ⟨4, by omega, by omega, rfl, HA⟩
      case round =>
        obtain ⟨k, hk4, hk, rfl, HK⟩ := hrel
        by_cases hlt : k < s.size ∧ (97 ≤ g k ∧ g k ≤ 122 ∨ 65 ≤ g k ∧ g k ≤ 90)
        · obtain ⟨hlt, hlet⟩ := hlt
          have HK2 : Hid (A = letF s.size g (k + 1)) := Lib.hid (by rw [HK.out, letF, if_pos ⟨hlt, by unfold letB; exact decide_eq_true hlet⟩])
          clear HK HR HA
          go_wp2_with fail
          all_goals first
            | (go_round
               case rel => exact ⟨k + 1, by omega, by omega, by go_num, HK2⟩
               case measure => simp [intOf]; omega)
            | (exfalso; omega)
        · have hA : A = k := by rw [HK.out, letF, if_neg (by unfold letB; simp; omega)]
          subst hA
          clear HK HA HR
          go_wp2_with fail
          all_goals first
            | (go_meet
               case rel => exact ⟨rfl, rfl, hk4, hk⟩)
            | (exfalso; omega)
    case rest =>
      obtain ⟨rfl, rfl, hA4, hAn⟩ := hcut
      clear HA
      by_cases hok : 4 < A ∧ A + 10 ≤ s.size ∧ MB A = true ∧ g (s.size - 1) = 125
      · obtain ⟨hA5, hA10, hmb, h125⟩ := hok
        have HR2 := HR.out
        rw [if_pos ⟨h5, hv, hA5, hA10, hmb, h125⟩] at HR2
        clear HR
        have HR := Lib.hid HR2
        clear HR2
        rw [HMB.out] at hmb
        have hnm : (s.extract 4 A).toList.isEmpty = false := by
          cases e : (s.extract 4 A).toList.isEmpty with
          | false => rfl
          | true =>
            have := (nil_iff _).1 (List.isEmpty_iff.1 e)
            rw [ByteArray.size_extract] at this
            omega
        obtain ⟨m, hm⟩ : ∃ m, s.size = m + 1 := ⟨s.size - 1, by omega⟩
        have h125' : g m = 125 := by rw [hm] at h125; exact h125
        clear h125 hv hv' h5i HV HMB
        by_cases hAm : A + 9 = m
        · have hAb : ((A : Int) + 9 == (m : Int)) = true := by rw [← hAm]; simp
          have eR : R = some (s.extract 4 A, []) := by rw [HR.out, if_pos (by omega)]
          have h1 : A + 9 ≤ m := by omega
          have h2 : m ≤ A + 9 := by omega
          clear HR hAm
          go_wp2_with fail
          all_goals
            go_ret3
            exact ⟨_, ret_decl (R := R) (by rw [eR]; rfl) (by rw [eR]; rfl), by rw [eR]; exact IntsV.nil _, Below.refl _ _⟩
        have hAb : ((A : Int) + 9 == (m : Int)) = false := by simp; omega
        have hne := hAm
        go_wp2_with fail
        have HK0 : Hid (R = (seqP m MI SE NR (s.size + 1) (A + 9)).map (fun l => (s.extract 4 A, [] ++ l))) := Lib.hid (by
          have h := HR.out
          rw [if_neg (by omega), show s.size - 1 = m by omega] at h
          rw [h]; rfl)
        have HNum2 : Hid (∀ (W : World) (i : Nat), i ≤ m → Calls Tryz.prog 39 #[.string (s.extract 0 m), .int .i64 i, .int .i64 9] W fun e w' => e = .returned (.tuple #[.int .i64 (NR i).1, .int .i64 (NR i).2]) ∧ W = w') := Lib.hid (fun W i hi => by
          have h := HNum.out W i (by omega)
          rw [show s.size - 1 = m by omega] at h
          exact h)
        have HBd2 : Hid (∀ i, i ≤ m → NR i = (0, -1) ∨ ∃ (d : Nat) (v : Int), 0 < d ∧ i + d ≤ m ∧ NR i = (v, ((i + d : Nat) : Int)) ∧ 0 ≤ v ∧ v < 1000000000) := Lib.hid (fun i hi => by
          have h := HBd.out i (by omega)
          rw [show s.size - 1 = m by omega] at h
          exact h)
        clear HR HNum HBd hmb hnm h125'
        go_loopw [5, 9] (fun x u wr => ∃ (i f : Nat) (xs : List Int), A + 9 ≤ i ∧ i ≤ m ∧ m + 2 ≤ f + i ∧ x = .int .i64 i ∧ xs.length ≤ i ∧ OwnI wc.heap.size wr u xs ∧ Below wc.heap.size wc wr ∧ Hid (R = (seqP m MI SE NR f i).map (fun l => (s.extract 4 A, xs ++ l)))) (fun x u _ => m + 1 - (intOf x).toNat)
        case atStart => exact ⟨A + 9, s.size + 1, [], by omega, by omega, by omega, by go_num, by simp, OwnI.nil _ _, Below.refl _ _, HK0⟩
        case round =>
          obtain ⟨i, f, xs, hi9, him, hf, rfl, hxi, hown, hbr, HK⟩ := hrel
          obtain ⟨f, rfl⟩ : ∃ f', f = f' + 1 := ⟨f - 1, by omega⟩
          have hbs := hbr.size
          clear HK0
          by_cases him2 : i < m
          · by_cases hgi : g i = 45
            · have hMI : MI i = true := by rw [HMI.out, hgi]; rfl
              have hN := HBd2.out (i + 1) (by omega)
              rcases hN with hN | ⟨d, v, hd0, hdm, hN, hv0, hv1⟩
              · have eR : R = none := by rw [HK.out, seqP, if_pos ⟨him2, hMI⟩]; simp [hN]
                have HC : Hid (∀ W, Calls Tryz.prog 39 #[.string (s.extract 0 m), .int .i64 ((i : Int) + 1), .int .i64 9] W fun e w' => e = .returned (.tuple #[.int .i64 0, .int .i64 (-1)]) ∧ W = w') := Lib.hid (fun W => by
                  have h := HNum2.out W (i + 1) (by omega)
                  rw [hN] at h
                  exact h)
                clear HK HNum2 HBd2 HMI HSE hN
                go_wp2_with (go_at_call 39; refine (HC.out _).mono ?_; rintro e w8 ⟨rfl, rfl⟩)
                go_ret3
                exact ⟨_, ret_decl (R := R) (by rw [eR]; rfl) (by rw [eR]; rfl), by rw [eR]; exact IntsV.nil _, hbr⟩
              · obtain ⟨k, hk⟩ : ∃ k, k = i + 1 + d := ⟨_, rfl⟩
                rw [← hk] at hN
                have HC : Hid (∀ W, Calls Tryz.prog 39 #[.string (s.extract 0 m), .int .i64 ((i : Int) + 1), .int .i64 9] W fun e w' => e = .returned (.tuple #[.int .i64 v, .int .i64 (k : Int)]) ∧ W = w') := Lib.hid (fun W => by
                  have h := HNum2.out W (i + 1) (by omega)
                  rw [hN] at h
                  exact h)
                have hkm : k ≤ m := by omega
                have hki : i < k := by omega
                have HK2 := HK.out
                rw [seqP, if_pos ⟨him2, hMI⟩, hN] at HK2
                have HK3 := Lib.hid HK2
                have HSK := Lib.hid (show SE k = ((s.extract k (k + 2)).toList == [44, 32]) from HSE.out k)
                clear hk hd0 hdm hN HK HK2 HNum2 HBd2 HMI HSE
                by_cases hz : v = 0
                · have eR : R = none := by rw [HK3.out]; simp [hz]
                  subst hz
                  clear HK3
                  go_wp2_with (go_at_call 39; refine (HC.out _).mono ?_; rintro e w8 ⟨rfl, rfl⟩)
                  go_ret3
                  exact ⟨_, ret_decl (R := R) (by rw [eR]; rfl) (by rw [eR]; rfl), by rw [eR]; exact IntsV.nil _, hbr⟩
                have hzb : (v == 0) = false := by simpa using hz
                by_cases hke : k = m
                · have eR : R = some (s.extract 4 A, xs ++ [(-v)]) := by rw [HK3.out]; simp [hz, hke]
                  have hkb : ((k : Int) == (m : Int)) = true := by rw [hke]; simp
                  clear HK3
                  go_wp2_with (first
              | (go_at_call 39; refine (HC.out _).mono ?_; rintro e w8 ⟨rfl, rfl⟩)
              | (at_builtin; refine wpList_append_src rfl _ _ 22 rfl wc.heap.size 3 i0 (.int .i64 0) 1 8 Tryz.underlying22 hi0 hz0 hz1 hz2 rfl (by decide) _ _ _ rfl (hown.alloc _) _ 1 _ rfl (SrcV.new _ (.int .i64 (-v)) _) rfl (nums_one [(-v)]) ?c3 ?c4 ?c5 ?_))
                  case c3 => unfold maxLen; omega
                  case c4 => omega
                  case c5 => have hs8 := hbr.size; rw [World.size_alloc]; omega
                  intro v' w4 hown' hgrow
                  have hz4 := (hbr.alloc (by omega) _).grown hgrow (by simp; omega) (own_base hown (by simp))
                  replace hown' := OwnI.one hown'
                  go_wp2_with fail
                  go_ret3
                  exact ⟨_, ret_decl (R := R) (by rw [eR]; rfl) (by rw [eR]; rfl), by rw [eR]; exact IntsV.of_owns hown', hz4⟩
                have hkb : ((k : Int) == (m : Int)) = false := by simp; omega
                have hk0 : ¬ ((k : Int) < 0) := by omega
                have hke2 : ¬ ((k : Int) = (m : Int)) := by omega
                by_cases hse : (m : Int) - k < 2
                · have eR : R = none := by rw [HK3.out]; simp [hz, hke2, hse]
                  clear HK3
                  go_wp2_with (first
              | (go_at_call 39; refine (HC.out _).mono ?_; rintro e w8 ⟨rfl, rfl⟩)
              | (at_builtin; refine wpList_append_src rfl _ _ 22 rfl wc.heap.size 3 i0 (.int .i64 0) 1 8 Tryz.underlying22 hi0 hz0 hz1 hz2 rfl (by decide) _ _ _ rfl (hown.alloc _) _ 1 _ rfl (SrcV.new _ (.int .i64 (-v)) _) rfl (nums_one [(-v)]) ?c3 ?c4 ?c5 ?_))
                  case c3 => unfold maxLen; omega
                  case c4 => omega
                  case c5 => have hs8 := hbr.size; rw [World.size_alloc]; omega
                  intro v' w4 hown' hgrow
                  have hz4 := (hbr.alloc (by omega) _).grown hgrow (by simp; omega) (own_base hown (by simp))
                  replace hown' := OwnI.one hown'
                  go_wp2_with fail
                  go_ret3
                  exact ⟨_, ret_decl (R := R) (by rw [eR]; rfl) (by rw [eR]; rfl), by rw [eR]; exact IntsV.nil _, hz4⟩
                by_cases hsep : SE k = true
                · have hsb : ((s.extract k (k + 2)).toList == [44, 32]) = true := by rw [← HSK.out]; exact hsep
                  have HK4 : Hid (R = (seqP m MI SE NR f (k + 2)).map (fun l => (s.extract 4 A, (xs ++ [(-v)]) ++ l))) := Lib.hid (by
                    rw [HK3.out]
                    simp [hz, hke2, hk0, hse, hsep, Option.map_map, Function.comp_def])
                  clear HK3
                  go_wp2_with (first
              | (go_at_call 39; refine (HC.out _).mono ?_; rintro e w8 ⟨rfl, rfl⟩)
              | (at_builtin; refine wpList_append_src rfl _ _ 22 rfl wc.heap.size 3 i0 (.int .i64 0) 1 8 Tryz.underlying22 hi0 hz0 hz1 hz2 rfl (by decide) _ _ _ rfl (hown.alloc _) _ 1 _ rfl (SrcV.new _ (.int .i64 (-v)) _) rfl (nums_one [(-v)]) ?c3 ?c4 ?c5 ?_))
                  case c3 => unfold maxLen; omega
                  case c4 => omega
                  case c5 => have hs8 := hbr.size; rw [World.size_alloc]; omega
                  intro v' w4 hown' hgrow
                  have hz4 := (hbr.alloc (by omega) _).grown hgrow (by simp; omega) (own_base hown (by simp))
                  replace hown' := OwnI.one hown'
                  go_wp2_with fail
                  go_roundw
                  case rel => exact ⟨k + 2, f, xs ++ [(-v)], by omega, by omega, by omega, by go_num, by simp; omega, hown', hz4, HK4⟩
                  case measure => simp [intOf]; omega
                · have hsb : ((s.extract k (k + 2)).toList == [44, 32]) = false := by rw [← HSK.out]; simpa using hsep
                  have eR : R = none := by rw [HK3.out]; simp [hz, hke2, hsep]
                  clear HK3
                  go_wp2_with (first
              | (go_at_call 39; refine (HC.out _).mono ?_; rintro e w8 ⟨rfl, rfl⟩)
              | (at_builtin; refine wpList_append_src rfl _ _ 22 rfl wc.heap.size 3 i0 (.int .i64 0) 1 8 Tryz.underlying22 hi0 hz0 hz1 hz2 rfl (by decide) _ _ _ rfl (hown.alloc _) _ 1 _ rfl (SrcV.new _ (.int .i64 (-v)) _) rfl (nums_one [(-v)]) ?c3 ?c4 ?c5 ?_))
                  case c3 => unfold maxLen; omega
                  case c4 => omega
                  case c5 => have hs8 := hbr.size; rw [World.size_alloc]; omega
                  intro v' w4 hown' hgrow
                  have hz4 := (hbr.alloc (by omega) _).grown hgrow (by simp; omega) (own_base hown (by simp))
                  replace hown' := OwnI.one hown'
                  go_wp2_with fail
                  go_ret3
                  exact ⟨_, ret_decl (R := R) (by rw [eR]; rfl) (by rw [eR]; rfl), by rw [eR]; exact IntsV.nil _, hz4⟩
            · have hgb : (g i == 45) = false := by simpa using hgi
              have hMI : ¬ (i < m ∧ MI i = true) := by rw [HMI.out, hgb]; simp
              have hN := HBd2.out (i) (by omega)
              rcases hN with hN | ⟨d, v, hd0, hdm, hN, hv0, hv1⟩
              · have eR : R = none := by rw [HK.out, seqP, if_neg hMI]; simp [hN]
                have HC : Hid (∀ W, Calls Tryz.prog 39 #[.string (s.extract 0 m), .int .i64 (i : Int), .int .i64 9] W fun e w' => e = .returned (.tuple #[.int .i64 0, .int .i64 (-1)]) ∧ W = w') := Lib.hid (fun W => by
                  have h := HNum2.out W (i) (by omega)
                  rw [hN] at h
                  exact h)
                clear HK HNum2 HBd2 HMI HSE hN
                go_wp2_with (go_at_call 39; refine (HC.out _).mono ?_; rintro e w8 ⟨rfl, rfl⟩)
                go_ret3
                exact ⟨_, ret_decl (R := R) (by rw [eR]; rfl) (by rw [eR]; rfl), by rw [eR]; exact IntsV.nil _, hbr⟩
              · obtain ⟨k, hk⟩ : ∃ k, k = i + d := ⟨_, rfl⟩
                rw [← hk] at hN
                have HC : Hid (∀ W, Calls Tryz.prog 39 #[.string (s.extract 0 m), .int .i64 (i : Int), .int .i64 9] W fun e w' => e = .returned (.tuple #[.int .i64 v, .int .i64 (k : Int)]) ∧ W = w') := Lib.hid (fun W => by
                  have h := HNum2.out W (i) (by omega)
                  rw [hN] at h
                  exact h)
                have hkm : k ≤ m := by omega
                have hki : i < k := by omega
                have HK2 := HK.out
                rw [seqP, if_neg hMI, hN] at HK2
                have HK3 := Lib.hid HK2
                have HSK := Lib.hid (show SE k = ((s.extract k (k + 2)).toList == [44, 32]) from HSE.out k)
                clear hk hd0 hdm hN HK HK2 HNum2 HBd2 HMI HSE
                by_cases hke : k = m
                · have eR : R = some (s.extract 4 A, xs ++ [v]) := by rw [HK3.out]; simp [hke]
                  have hkb : ((k : Int) == (m : Int)) = true := by rw [hke]; simp
                  clear HK3
                  go_wp2_with (first
              | (go_at_call 39; refine (HC.out _).mono ?_; rintro e w8 ⟨rfl, rfl⟩)
              | (at_builtin; refine wpList_append_src rfl _ _ 22 rfl wc.heap.size 3 i0 (.int .i64 0) 1 8 Tryz.underlying22 hi0 hz0 hz1 hz2 rfl (by decide) _ _ _ rfl (hown.alloc _) _ 1 _ rfl (SrcV.new _ (.int .i64 v) _) rfl (nums_one [v]) ?c3 ?c4 ?c5 ?_))
                  case c3 => unfold maxLen; omega
                  case c4 => omega
                  case c5 => have hs8 := hbr.size; rw [World.size_alloc]; omega
                  intro v' w4 hown' hgrow
                  have hz4 := (hbr.alloc (by omega) _).grown hgrow (by simp; omega) (own_base hown (by simp))
                  replace hown' := OwnI.one hown'
                  go_wp2_with fail
                  go_ret3
                  exact ⟨_, ret_decl (R := R) (by rw [eR]; rfl) (by rw [eR]; rfl), by rw [eR]; exact IntsV.of_owns hown', hz4⟩
                have hkb : ((k : Int) == (m : Int)) = false := by simp; omega
                have hk0 : ¬ ((k : Int) < 0) := by omega
                have hke2 : ¬ ((k : Int) = (m : Int)) := by omega
                by_cases hse : (m : Int) - k < 2
                · have eR : R = none := by rw [HK3.out]; simp [hke2, hse]
                  clear HK3
                  go_wp2_with (first
              | (go_at_call 39; refine (HC.out _).mono ?_; rintro e w8 ⟨rfl, rfl⟩)
              | (at_builtin; refine wpList_append_src rfl _ _ 22 rfl wc.heap.size 3 i0 (.int .i64 0) 1 8 Tryz.underlying22 hi0 hz0 hz1 hz2 rfl (by decide) _ _ _ rfl (hown.alloc _) _ 1 _ rfl (SrcV.new _ (.int .i64 v) _) rfl (nums_one [v]) ?c3 ?c4 ?c5 ?_))
                  case c3 => unfold maxLen; omega
                  case c4 => omega
                  case c5 => have hs8 := hbr.size; rw [World.size_alloc]; omega
                  intro v' w4 hown' hgrow
                  have hz4 := (hbr.alloc (by omega) _).grown hgrow (by simp; omega) (own_base hown (by simp))
                  replace hown' := OwnI.one hown'
                  go_wp2_with fail
                  go_ret3
                  exact ⟨_, ret_decl (R := R) (by rw [eR]; rfl) (by rw [eR]; rfl), by rw [eR]; exact IntsV.nil _, hz4⟩
                by_cases hsep : SE k = true
                · have hsb : ((s.extract k (k + 2)).toList == [44, 32]) = true := by rw [← HSK.out]; exact hsep
                  have HK4 : Hid (R = (seqP m MI SE NR f (k + 2)).map (fun l => (s.extract 4 A, (xs ++ [v]) ++ l))) := Lib.hid (by
                    rw [HK3.out]
                    simp [hke2, hk0, hse, hsep, Option.map_map, Function.comp_def])
                  clear HK3
                  go_wp2_with (first
              | (go_at_call 39; refine (HC.out _).mono ?_; rintro e w8 ⟨rfl, rfl⟩)
              | (at_builtin; refine wpList_append_src rfl _ _ 22 rfl wc.heap.size 3 i0 (.int .i64 0) 1 8 Tryz.underlying22 hi0 hz0 hz1 hz2 rfl (by decide) _ _ _ rfl (hown.alloc _) _ 1 _ rfl (SrcV.new _ (.int .i64 v) _) rfl (nums_one [v]) ?c3 ?c4 ?c5 ?_))
                  case c3 => unfold maxLen; omega
                  case c4 => omega
                  case c5 => have hs8 := hbr.size; rw [World.size_alloc]; omega
                  intro v' w4 hown' hgrow
                  have hz4 := (hbr.alloc (by omega) _).grown hgrow (by simp; omega) (own_base hown (by simp))
                  replace hown' := OwnI.one hown'
                  go_wp2_with fail
                  go_roundw
                  case rel => exact ⟨k + 2, f, xs ++ [v], by omega, by omega, by omega, by go_num, by simp; omega, hown', hz4, HK4⟩
                  case measure => simp [intOf]; omega
                · have hsb : ((s.extract k (k + 2)).toList == [44, 32]) = false := by rw [← HSK.out]; simpa using hsep
                  have eR : R = none := by rw [HK3.out]; simp [hke2, hsep]
                  clear HK3
                  go_wp2_with (first
              | (go_at_call 39; refine (HC.out _).mono ?_; rintro e w8 ⟨rfl, rfl⟩)
              | (at_builtin; refine wpList_append_src rfl _ _ 22 rfl wc.heap.size 3 i0 (.int .i64 0) 1 8 Tryz.underlying22 hi0 hz0 hz1 hz2 rfl (by decide) _ _ _ rfl (hown.alloc _) _ 1 _ rfl (SrcV.new _ (.int .i64 v) _) rfl (nums_one [v]) ?c3 ?c4 ?c5 ?_))
                  case c3 => unfold maxLen; omega
                  case c4 => omega
                  case c5 => have hs8 := hbr.size; rw [World.size_alloc]; omega
                  intro v' w4 hown' hgrow
                  have hz4 := (hbr.alloc (by omega) _).grown hgrow (by simp; omega) (own_base hown (by simp))
                  replace hown' := OwnI.one hown'
                  go_wp2_with fail
                  go_ret3
                  exact ⟨_, ret_decl (R := R) (by rw [eR]; rfl) (by rw [eR]; rfl), by rw [eR]; exact IntsV.nil _, hz4⟩
          · skip
            have hN : NR i = (0, -1) := by
              rcases HBd2.out i (by omega) with hN | ⟨d, v, hd0, hdm, _⟩
              · exact hN
              · omega
            have hMI : ¬ (i < m ∧ MI i = true) := fun h => him2 h.1
            have eR : R = none := by rw [HK.out, seqP, if_neg hMI]; simp [hN]
            have HC : Hid (∀ W, Calls Tryz.prog 39 #[.string (s.extract 0 m), .int .i64 (i : Int), .int .i64 9] W fun e w' => e = .returned (.tuple #[.int .i64 0, .int .i64 (-1)]) ∧ W = w') := Lib.hid (fun W => by
              have h := HNum2.out W i (by omega)
              rw [hN] at h
              exact h)
            clear HK HNum2 HBd2 HMI HSE hN
            go_wp2_with (go_at_call 39; refine (HC.out _).mono ?_; rintro e w8 ⟨rfl, rfl⟩)
            go_ret3
            exact ⟨_, ret_decl (R := R) (by rw [eR]; rfl) (by rw [eR]; rfl), by rw [eR]; exact IntsV.nil _, hbr⟩
      · have eR : R = none := by rw [HR.out, if_neg (by intro h; exact hok ⟨h.2.2.1, h.2.2.2.1, h.2.2.2.2.1, h.2.2.2.2.2⟩)]
        clear HR
        subst eR
        rw [HMB.out] at hok
        have HF := Lib.hid hok
        have HN4 : Hid ((s.extract 4 A).toList ≠ [] → 4 < A) := Lib.hid (fun h => by
          rcases Nat.lt_or_ge 4 A with h1 | h1
          · exact h1
          · exact absurd ((nil_iff _).2 (by rw [ByteArray.size_extract]; omega)) h)
        clear hok
        go_wp2_with fail
        all_goals first
          | (go_ret3; exact ⟨_, rfl, IntsV.nil _, Below.refl _ _⟩)
          | (exfalso
             refine HF.out ⟨HN4.out ‹_›, by omega, beq_iff_eq.2 ‹_›, ?_⟩
             have h := ‹((s.extract 4 A).toList.isEmpty = false ∧ 10 ≤ (s.size : Int) - (A : Int)) ∧ (g (s.size - 1) != 125) = false›
             simpa using h.2)
  · have eR : R = none := by rw [HR.out, if_neg (by intro h; exact h5 ⟨h.1, h.2.1⟩)]
    clear HR
    subst eR
    rw [HV.out] at h5
    have HF := Lib.hid h5
    clear h5
    go_enter Tryz.func17, Tryz.ntmps17
    go_wp2_with fail
    all_goals first
      | (go_ret3; exact ⟨_, rfl, IntsV.nil _, Below.refl _ _⟩)
      | (exfalso; exact HF.out ⟨by omega, by have h := ‹5 ≤ (s.size : Int) ∧ (!(s.extract 0 4).toList == [118, 97, 114, 32]) = false›; simpa using h.2⟩)
end Go.Proofs.YtmfjpdlegaimlaaGreatDoor
