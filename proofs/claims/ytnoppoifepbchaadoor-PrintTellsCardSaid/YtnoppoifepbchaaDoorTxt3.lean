/- The text of a source: the document's. -/
import Derived.Test.YtnoppoifepbchaaDoorTxt6
import Derived.Deep.CutRange
import Derived.Deep.RegionWith
namespace Go.Proofs.YtnoppoifepbchaaDoor
open Go.RowKit
set_option linter.unusedVariables false
set_option linter.unusedSimpArgs false

/-- how long a text may be within the loop over declarations -/
def bo (k : Nat) : Nat := 1000010 + k * 300000000
def bd (k j : Nat) : Nat := 2000040 + k * 300000000 + j * 2000000
theorem bo_start {t : Nat} (h : t ≤ 1000010) : t ≤ bo 0 := by unfold bo; omega
theorem bo_num {k : Nat} (h : k ≤ 100) : bo k ≤ 30001000010 := by unfold bo; omega
theorem bd_start {t k : Nat} (h : t ≤ bo k + 1000030) : t ≤ bd k 0 := by unfold bo at h; unfold bd; omega
theorem bd_num {k j : Nat} (h : k ≤ 100) (hj : j ≤ 100) : bd k j ≤ 40000000000 := by unfold bd; omega
theorem bd_next {t u k j : Nat} (h : t ≤ bd k j) (hu : u ≤ t + 1000012) : u ≤ bd k (j + 1) := by unfold bd at *; omega
theorem bd_out {t u k j : Nat} (h : t ≤ bd k j) (hj : j ≤ 100) (hu : u ≤ t + 1) : u ≤ bo (k + 1) := by unfold bd at h; unfold bo; omega

def br (j : Nat) : Nat := 40000000000 + j * 30000000000
def bb (j q : Nat) : Nat := br j + 1000002 + q * 200000000
theorem br_start {t : Nat} (h : t ≤ 40000000000) : t ≤ br 0 := by unfold br; omega
theorem br_num {j : Nat} (h : j ≤ 100) : br j ≤ 4000000000000 := by unfold br; omega
theorem bb_start {t j : Nat} (h : t ≤ br j + 1000002) : t ≤ bb j 0 := by unfold bb; omega
theorem bb_num {j q : Nat} (h : j ≤ 100) (hq : q ≤ 100) : bb j q ≤ 5000000000000 := by unfold bb br; omega
theorem bb_next {t u j q : Nat} (h : t ≤ bb j q) (hu : u ≤ t + 103000002) : u ≤ bb j (q + 1) := by unfold bb at *; omega
theorem bb_out {t u j q : Nat} (h : t ≤ bb j q) (hq : q ≤ 100) (hu : u ≤ t + 3) : u ≤ br (j + 1) := by unfold bb br at h; unfold br; omega
theorem altT_size (a : Al) (hs : AlSmall a) (hf : a.parts.length ≤ 100) : (tailSp (altL a)).length ≤ 103000000 := by
  have h1 := altL_len a hf
  have h2 := tailSp_len (altL a) 1000000 (fun y hy => by
    unfold altL at hy
    rcases List.mem_append.1 hy with hy | hy
    · obtain ⟨p, hp, rfl⟩ := List.mem_map.1 hy
      exact partT_size p (hs.1 p hp)
    · split at hy
      · simp at hy
      · rcases (by simpa using hy : y = (⟨#[37, 112, 114, 101, 99]⟩ : ByteArray) ∨ y = symT a.prec) with rfl | rfl
        · decide
        · exact symT_size _ hs.2)
  have h3 : (altL a).length * (1000000 + 1) ≤ 102 * 1000001 := Nat.mul_le_mul_right _ h1
  omega

set_option maxRecDepth 100000 in
set_option maxHeartbeats 16000000 in
theorem rtext_any (v : Value) (s : So) (w : World) (h : SoV w v s) (hs : SoSmall s) (hf : SoFew s) : Calls Tryd.prog 19 #[v] w (TellsTx (soT s) w) := by
  have HM := Lib.hid (fun (W : World) (hW : Below w.heap.size w W) => rmay_any v s W (h.below hW) hs)
  obtain ⟨dv, rv, rfl, hd, hr⟩ := h
  obtain ⟨a1, n1, c1, rfl, hn1, hc1, hm1, hx1⟩ := hd.open
  obtain ⟨a2, n2, c2, rfl, hn2, hc2, hm2, hx2⟩ := hr.open
  have HR : Hid (soT s = if maySo s = true then proT s.pro ++ s.decls.flatMap (fun d => declT d ++ [10]) ++ [37, 37, 10] ++ s.rules.flatMap (fun r => ruleT r ++ [10]) ++ tailT s.tail else []) := Lib.hid rfl
  have HO := Lib.hid (fun h => so_of (s := s) h)
  have HS1 := Lib.hid hs.2.2.1
  have HS2 := Lib.hid hs.2.2.2
  have HF1 := Lib.hid hf.2.2.1
  have HF2 := Lib.hid hf.2.2.2
  have hz1 := hs.1
  have hz2 := hs.2.1
  have hn1' : n1 ≤ 100 := by rw [hn1.out]; exact hf.1
  have hn2' : n2 ≤ 100 := by rw [hn2.out]; exact hf.2.1
  generalize soT s = R at HR ⊢
  generalize maySo s = mb at HM HR HO
  obtain ⟨pr, ds, rs, ta⟩ := s
  simp only at *
  clear hd hr hs hf
  have hba := (Below.refl w.heap.size w).alloc (Nat.le_refl _) (.cells #[.string pr, .slice a1 n1 c1, .slice a2 n2 c2, .string ta] 29)
  have HC := Lib.hid (fun W hW => box1 (w := w) (A := #[.string pr, .slice a1 n1 c1, .slice a2 n2 c2, .string ta]) (T := 29) (W := W) hW)
  go_enter Tryd.func19, Tryd.ntmps19
  cases mb with
  | false =>
    go_wp2_with (first | (go_at_call 17; refine (HM.out _ hba).mono ?_; rintro e w9 ⟨rfl, hb9⟩))
    go_ret
    exact ⟨_, rfl, by rw [HR.out]; rfl, hba.trans (hb9.mono hba.size)⟩
  | true =>
    have HOD := Lib.hid (HO.out rfl).1
    have HOR := Lib.hid (HO.out rfl).2
    have HR2 : Hid (R = proT pr ++ ds.flatMap (fun d => declT d ++ [10]) ++ [37, 37, 10] ++ rs.flatMap (fun r => ruleT r ++ [10]) ++ tailT ta) := Lib.hid (by rw [HR.out]; rfl)
    clear HR HO
    go_upto_if 14 with (first | (go_at_call 17; refine (HM.out _ hba).mono ?_; rintro e w9 ⟨rfl, hb9⟩; have q0 := HC.out _ hb9 0 _ rfl))
    go_cut [3] from 14 to 18 (fun x wx => (∃ S : ByteArray, x = .string S ∧ Hid (S.data.toList = proT pr) ∧ S.size ≤ 1000010) ∧ wx = w9)
    case first =>
      by_cases h0 : pr.size = 0
      · have d1 : (!pr.toList.isEmpty) = false := by rw [str_empty h0]; rfl
        have HP : Hid (proT pr = []) := Lib.hid (by unfold proT; rw [if_pos h0])
        clear h0
        rw [d1]
        go_wp2_with fail
        go_meet
        case rel => exact ⟨⟨_, rfl, Lib.hid (by rw [HP.out]), by decide⟩, rfl⟩
      · have d1 : (!pr.toList.isEmpty) = true := by rw [str_some h0]; rfl
        have HP : Hid (proT pr = [37, 123] ++ pr.data.toList ++ [37, 125, 10]) := Lib.hid (by unfold proT; rw [if_neg h0])
        clear h0
        rw [d1]
        go_wp2_with fail
        go_meet
        case rel => exact ⟨⟨_, rfl, Lib.hid (by rw [HP.out, ba_data, ba_data]), by rw [ByteArray.size_append, ByteArray.size_append]; have e1 : (⟨#[37, 123]⟩ : ByteArray).size = 2 := rfl; have e2 : (⟨#[37, 125, 10]⟩ : ByteArray).size = 3 := rfl; omega⟩, rfl⟩
    case rest =>
      obtain ⟨⟨S0, rfl, hS0, hz0⟩, rfl⟩ := hcut
      go_wp2_with fail
      go_loopw [4, 3] (fun i s wr => ∃ (k : Nat) (S : ByteArray), k ≤ n1 ∧ i = .int .i64 k ∧ s = .string S ∧ Below (w.alloc (.cells #[.string pr, .slice a1 n1 c1, .slice a2 n2 c2, .string ta] 29)).heap.size (w.alloc (.cells #[.string pr, .slice a1 n1 c1, .slice a2 n2 c2, .string ta] 29)) wr ∧ Hid (S.data.toList = proT pr ++ (ds.take k).flatMap (fun d => declT d ++ [10])) ∧ S.size ≤ bo k) (fun i _ _ => n1 - (intOf i).toNat)
      case atStart => exact ⟨0, S0, Nat.zero_le _, rfl, rfl, hb9, Lib.hid (by rw [hS0.out]; simp), bo_start hz0⟩
      case round =>
        clear q0 hb9 hz0 hS0
        obtain ⟨k, S, hk, rfl, rfl, hbr, hp, hS⟩ := hrel
        rename World => wr
        have q1 := HC.out wr hbr 1 _ rfl
        have hbw := hba.trans (hbr.mono hba.size)
        by_cases hlt : k < n1
        · obtain ⟨b, o, x, sx, rfl, ex, hsx, x0, x1, x2, x3⟩ := hx1.out k hlt
          obtain ⟨ax, nx, cx, rfl, hnx, hcx, hmx, hxx⟩ := hsx.open
          have hb1 := World.block_lt_of_cell? _ _ x0
          replace x0 := (hbw.cell (p := ⟨b, o + k * 4, none⟩) hb1).trans x0
          replace x1 := (hbw.cell (p := ⟨b, o + k * 4 + 1, none⟩) hb1).trans x1
          replace x2 := (hbw.cell (p := ⟨b, o + k * 4 + 2, none⟩) hb1).trans x2
          replace x3 := (hbw.cell (p := ⟨b, o + k * 4 + 3, none⟩) hb1).trans x3
          have hz := HS1.out x (mem_at ex)
          have hnx' : nx ≤ 100 := by rw [hnx.out]; exact HF1.out x (mem_at ex)
          have hdc := dc_of (HOD.out x (mem_at ex))
          have hkd := hdc.1
          have hks := keyS_size x.kind
          have HD : Hid (declT x = (keyS x.kind).data.toList ++ ((if x.tag.size = 0 then [] else [32, 60] ++ x.tag.data.toList ++ [62]) ++ tailSp (x.syms.flatMap declSm))) := Lib.hid (by
            unfold declT declTl; rw [tailSp_append]; congr 2; split
            · rfl
            · simp [tailSp])
          have HN := Lib.hid (flat_next (fun d => declT d ++ [10]) ex)
          have HS := Lib.hid (fun y hy => And.intro (hz.2 y hy) (hdc.2 y hy))
          have htz := hz.1
          generalize declT x = dT at HD HN
          obtain ⟨kd, tg, sy, po⟩ := x
          simp only at x0 x1 x2 x3 HD hnx hxx hkd hks HS htz
          have i1 : (k : Int) < (n1 : Int) := by omega
          have hbo := bo_num (show k ≤ 100 by omega)
          have hbx := (Below.refl wr.heap.size wr).alloc (Nat.le_refl _) (.cells #[.int .i64 kd, .string tg, .slice ax nx cx, .int .i64 po] 51)
          have hbrx := hbr.trans (hbx.mono hbr.size)
          have hbwx := hbw.trans (hbx.mono hbw.size)
          have HX4 := Lib.hid (fun W hW => box1 (w := wr) (A := #[.int .i64 kd, .string tg, .slice ax nx cx, .int .i64 po]) (T := 51) (W := W) hW)
          clear ex hsx hx1 hx2 HS1 HS2 HF1 HF2 HOD HOR hz hdc HM hc1 hm1 hc2 hm2 hcx hmx hn2' hz2 hz1
          go_upto_region 10 with fail
          go_cut [3] from 31 to 38 (fun s wx => s = .string (S ++ keyS kd) ∧ Below (wr.alloc (.cells #[.int .i64 kd, .string tg, .slice ax nx cx, .int .i64 po] 51)).heap.size (wr.alloc (.cells #[.int .i64 kd, .string tg, .slice ax nx cx, .int .i64 po] 51)) wx)
          case first =>
            have hp0 : (wr.alloc (.cells #[.int .i64 kd, .string tg, .slice ax nx cx, .int .i64 po] 51)).cell? ⟨wr.heap.size, 0, none⟩ = some (.int .i64 kd) := cell_top wr _ _ _ 0 rfl
            have hbx2 := Below.refl (wr.alloc (.cells #[.int .i64 kd, .string tg, .slice ax nx cx, .int .i64 po] 51)).heap.size (wr.alloc (.cells #[.int .i64 kd, .string tg, .slice ax nx cx, .int .i64 po] 51))
            generalize hwD : wr.alloc (.cells #[.int .i64 kd, .string tg, .slice ax nx cx, .int .i64 po] 51) = wD at hp0 hbx2 ⊢
            have HW := Lib.hid hwD
            clear hwD
            have HKY := Lib.hid (fun W => keys_any W)
            rcases kinds hkd with hk1 | hk1 | hk1 | hk1 | hk1 | hk1
            · subst hk1
              have hp1 := cell_alloc hp0
              have hk9 : (wD.alloc (.cells keyCells 9)).cell? ⟨wD.heap.size, 0, none⟩ = some (.string (keyS 1)) := cell_top wD _ _ _ 0 rfl
              generalize keyCells = KC at hk9 HKY
              generalize hKK : keyS 1 = K at hk9 hks
              have HKK := Lib.hid hKK
              clear hKK hkd
              go_region_with (go_at_call 12; refine (HKY.out _).mono ?_; rintro e w8 ⟨rfl, rfl⟩)
              all_goals
                go_wp2_with fail
                go_meet
                case rel => rw [HW.out, HKK.out]; exact ⟨rfl, (hbx2.alloc hbx2.size _).drew⟩
            · subst hk1
              have hp1 := cell_alloc hp0
              have hk9 : (wD.alloc (.cells keyCells 9)).cell? ⟨wD.heap.size, 1, none⟩ = some (.string (keyS 2)) := cell_top wD _ _ _ 1 rfl
              generalize keyCells = KC at hk9 HKY
              generalize hKK : keyS 2 = K at hk9 hks
              have HKK := Lib.hid hKK
              clear hKK hkd
              go_region_with (go_at_call 12; refine (HKY.out _).mono ?_; rintro e w8 ⟨rfl, rfl⟩)
              all_goals
                go_wp2_with fail
                go_meet
                case rel => rw [HW.out, HKK.out]; exact ⟨rfl, (hbx2.alloc hbx2.size _).drew⟩
            · subst hk1
              have hp1 := cell_alloc hp0
              have hk9 : (wD.alloc (.cells keyCells 9)).cell? ⟨wD.heap.size, 2, none⟩ = some (.string (keyS 3)) := cell_top wD _ _ _ 2 rfl
              generalize keyCells = KC at hk9 HKY
              generalize hKK : keyS 3 = K at hk9 hks
              have HKK := Lib.hid hKK
              clear hKK hkd
              go_region_with (go_at_call 12; refine (HKY.out _).mono ?_; rintro e w8 ⟨rfl, rfl⟩)
              all_goals
                go_wp2_with fail
                go_meet
                case rel => rw [HW.out, HKK.out]; exact ⟨rfl, (hbx2.alloc hbx2.size _).drew⟩
            · subst hk1
              have hp1 := cell_alloc hp0
              have hk9 : (wD.alloc (.cells keyCells 9)).cell? ⟨wD.heap.size, 3, none⟩ = some (.string (keyS 4)) := cell_top wD _ _ _ 3 rfl
              generalize keyCells = KC at hk9 HKY
              generalize hKK : keyS 4 = K at hk9 hks
              have HKK := Lib.hid hKK
              clear hKK hkd
              go_region_with (go_at_call 12; refine (HKY.out _).mono ?_; rintro e w8 ⟨rfl, rfl⟩)
              all_goals
                go_wp2_with fail
                go_meet
                case rel => rw [HW.out, HKK.out]; exact ⟨rfl, (hbx2.alloc hbx2.size _).drew⟩
            · subst hk1
              have hp1 := cell_alloc hp0
              have hk9 : (wD.alloc (.cells keyCells 9)).cell? ⟨wD.heap.size, 4, none⟩ = some (.string (keyS 5)) := cell_top wD _ _ _ 4 rfl
              generalize keyCells = KC at hk9 HKY
              generalize hKK : keyS 5 = K at hk9 hks
              have HKK := Lib.hid hKK
              clear hKK hkd
              go_region_with (go_at_call 12; refine (HKY.out _).mono ?_; rintro e w8 ⟨rfl, rfl⟩)
              all_goals
                go_wp2_with fail
                go_meet
                case rel => rw [HW.out, HKK.out]; exact ⟨rfl, (hbx2.alloc hbx2.size _).drew⟩
            · subst hk1
              have hp1 := cell_alloc hp0
              have hk9 : (wD.alloc (.cells keyCells 9)).cell? ⟨wD.heap.size, 5, none⟩ = some (.string (keyS 6)) := cell_top wD _ _ _ 5 rfl
              generalize keyCells = KC at hk9 HKY
              generalize hKK : keyS 6 = K at hk9 hks
              have HKK := Lib.hid hKK
              clear hKK hkd
              go_region_with (go_at_call 12; refine (HKY.out _).mono ?_; rintro e w8 ⟨rfl, rfl⟩)
              all_goals
                go_wp2_with fail
                go_meet
                case rel => rw [HW.out, HKK.out]; exact ⟨rfl, (hbx2.alloc hbx2.size _).drew⟩
          case rest =>
            obtain ⟨rfl, hbc⟩ := hcut
            have hwc := hbwx.trans (hbc.mono hbwx.size)
            have hrc := hbrx.trans (hbc.mono hbrx.size)
            have d1 := HX4.out wc hbc 1 _ rfl
            have hzK : (S ++ keyS kd).size ≤ bo k + 10 := by rw [ByteArray.size_append]; omega
            have hpK : Hid ((S ++ keyS kd).data.toList = proT pr ++ (ds.take k).flatMap (fun d => declT d ++ [10]) ++ (keyS kd).data.toList) := Lib.hid (by rw [ba_data, hp.out])
            generalize S ++ keyS kd = S1 at hzK hpK ⊢
            clear hbx hbrx hbwx hp hS hks q1
            go_upto_if 41 with fail
            go_cut [3] from 41 to 47 (fun s wx => (∃ S2 : ByteArray, s = .string S2 ∧ Hid (S2.data.toList = S1.data.toList ++ (if tg.size = 0 then [] else [32, 60] ++ tg.data.toList ++ [62])) ∧ S2.size ≤ bo k + 1000030) ∧ wx = wc)
            case first =>
              by_cases h0 : tg.size = 0
              · have e1 : (!tg.toList.isEmpty) = false := by rw [str_empty h0]; rfl
                rw [e1]
                go_wp2_with fail
                go_meet
                case rel => exact ⟨⟨_, rfl, Lib.hid (by rw [if_pos h0, List.append_nil]), by omega⟩, rfl⟩
              · have e1 : (!tg.toList.isEmpty) = true := by rw [str_some h0]; rfl
                have e2 : (⟨#[32, 60]⟩ : ByteArray).size = 2 := rfl
                have e3 : (⟨#[62]⟩ : ByteArray).size = 1 := rfl
                rw [e1]
                have d1' := HX4.out wc hbc 1 _ rfl
                go_wp2_with fail
                go_meet
                case rel => exact ⟨⟨_, rfl, Lib.hid (by rw [if_neg h0, ba_data, ba_data, ba_data]; simp), by rw [ByteArray.size_append, ByteArray.size_append, ByteArray.size_append]; omega⟩, rfl⟩
            case rest =>
              obtain ⟨⟨S2, rfl, hS2, hz2'⟩, rfl⟩ := hcut
              clear hzK
              have hpS : Hid (S2.data.toList = proT pr ++ (ds.take k).flatMap (fun d => declT d ++ [10]) ++ ((keyS kd).data.toList ++ (if tg.size = 0 then [] else [32, 60] ++ tg.data.toList ++ [62]))) := Lib.hid (by rw [hS2.out, hpK.out, List.append_assoc])
              clear hS2 hpK
              go_wp2_with fail
              go_loopw [6, 3] (fun i s wv => ∃ (j : Nat) (T : ByteArray), j ≤ nx ∧ i = .int .i64 j ∧ s = .string T ∧ Below wc.heap.size wc wv ∧ Hid (T.data.toList = S2.data.toList ++ tailSp ((sy.take j).flatMap declSm)) ∧ T.size ≤ bd k j) (fun i _ _ => nx - (intOf i).toNat)
              case atStart => exact ⟨0, S2, Nat.zero_le _, rfl, rfl, Below.refl _ _, Lib.hid (by simp [tailSp]), bd_start hz2'⟩
              case round =>
                obtain ⟨j, T, hj, rfl, rfl, hbv, hpj, hT⟩ := hrel
                rename World => wv
                have d2 := HX4.out wv (hbc.trans (hbv.mono hbc.size)) 2 _ rfl
                have hwv := hwc.trans (hbv.mono hwc.size)
                by_cases hjt : j < nx
                · obtain ⟨b3, o3, u, rfl, eu, u0, u1, u2, u3⟩ := hxx.out j hjt
                  have hb3 := World.block_lt_of_cell? _ _ u0
                  replace u0 := (hwv.cell (p := ⟨b3, o3 + j * 4, none⟩) hb3).trans u0
                  replace u1 := (hwv.cell (p := ⟨b3, o3 + j * 4 + 1, none⟩) hb3).trans u1
                  replace u2 := (hwv.cell (p := ⟨b3, o3 + j * 4 + 2, none⟩) hb3).trans u2
                  replace u3 := (hwv.cell (p := ⟨b3, o3 + j * 4 + 3, none⟩) hb3).trans u3
                  have hu := HS.out u (mem_at eu)
                  have huz := symT_size u hu.1
                  have hun := numT_le u.num hu.2.2.1 hu.2.2.2
                  have hu0 := hu.2.2.1
                  have hu5 := hu.2.2.2
                  have HQ := Lib.hid (fun W => rsymText_any u W hu.2.1)
                  have HM2 : Hid (tailSp ((sy.take (j + 1)).flatMap declSm) = tailSp ((sy.take j).flatMap declSm) ++ (32 :: (symT u).data.toList ++ (if u.num = 0 then [] else 32 :: (numT u.num).data.toList))) := Lib.hid (by
                    rw [flatT_next _ eu]; congr 1; unfold declSm; split <;> simp [tailSp])
                  generalize symT u = sT at HQ HM2 huz
                  obtain ⟨un, ul, um, up⟩ := u
                  simp only [Sm.agg] at u0 u1 u2 u3 HQ HM2 hun hu0 hu5
                  have j1 : (j : Int) < (nx : Int) := by omega
                  have hbd := bd_num (show k ≤ 100 by omega) (show j ≤ 100 by omega)
                  have e2 : (⟨#[32]⟩ : ByteArray).size = 1 := rfl
                  clear eu hu hxx HS hkd htz
                  have v2 := fun (W : World) (hW : Below wv.heap.size wv W) => (hW.cell (World.block_lt_of_cell? _ _ d2)).trans d2
                  have v3 := fun (W : World) (hW : Below wv.heap.size wv W) => (hW.cell (World.block_lt_of_cell? _ _ u2)).trans u2
                  have V2 := Lib.hid v2
                  have V3 := Lib.hid v3
                  clear v2 v3
                  by_cases hm0 : um = 0
                  · have f0 : decide (0 < um) = false := by simp; omega
                    have f0' : ¬ 0 < um := by omega
                    have HN4 : Hid ((T ++ (⟨#[32]⟩ : ByteArray) ++ sT).data.toList = S2.data.toList ++ tailSp ((sy.take (j + 1)).flatMap declSm)) := Lib.hid (by rw [HM2.out, ba_data, ba_data, hpj.out, if_pos hm0]; simp)
                    have hT2 : (T ++ (⟨#[32]⟩ : ByteArray) ++ sT).size ≤ bd k (j + 1) := bd_next hT (by rw [ByteArray.size_append, ByteArray.size_append]; omega)
                    have F : T.size + 1 + sT.size ≤ 100000000000000 := by omega
                    have HT2 := Lib.hid hT2
                    clear hm0 HM2 hT2 hT huz hun hu0 hu5 e2 hbd hbo hz2' hpS HN HD hb1 hb3
                    go_wp2_with (first | (go_at_call 42; refine (HQ.out _).mono ?_; rintro e w9 ⟨rfl, hb9⟩; have d2' := V2.out _ hb9; have u2' := V3.out _ hb9))
                    have hzz := hbv.trans (hb9.mono hbv.size)
                    go_roundw
                    case rel => exact ⟨j + 1, _, by omega, by go_num, rfl, hzz, HN4, HT2.out⟩
                    case measure => simp [intOf]; omega
                  · have f0 : decide (0 < um) = true := by simp; omega
                    have f0' : 0 < um := by omega
                    obtain ⟨m, rfl⟩ := Int.eq_ofNat_of_zero_le hu0
                    have HDg := Lib.hid (fun W => digitsOf_any m W (by omega))
                    have HN4 : Hid ((T ++ (⟨#[32]⟩ : ByteArray) ++ sT ++ (⟨#[32]⟩ : ByteArray) ++ numT (m : Int)).data.toList = S2.data.toList ++ tailSp ((sy.take (j + 1)).flatMap declSm)) := Lib.hid (by rw [HM2.out, ba_data, ba_data, ba_data, ba_data, hpj.out, if_neg hm0]; simp)
                    have hT2 : (T ++ (⟨#[32]⟩ : ByteArray) ++ sT ++ (⟨#[32]⟩ : ByteArray) ++ numT (m : Int)).size ≤ bd k (j + 1) := bd_next hT (by rw [ByteArray.size_append, ByteArray.size_append, ByteArray.size_append, ByteArray.size_append]; omega)
                    generalize numT (m : Int) = nT at HDg HN4 hT2 hun
                    have F : T.size + 1 + sT.size + 1 + nT.size ≤ 100000000000000 := by omega
                    have HT2 := Lib.hid hT2
                    clear hm0 HM2 hT2 hT huz hun hu0 hu5 e2 hbd hbo hz2' hpS HN HD hb1 hb3
                    go_wp2_with (first | (go_at_call 42; refine (HQ.out _).mono ?_; rintro e w9 ⟨rfl, hb9⟩; have d2' := V2.out _ hb9; have u2' := V3.out _ hb9) | (go_at_call 10; refine (HDg.out _).mono ?_; rintro e w8 ⟨rfl, hb8⟩))
                    have hzz := hbv.trans ((hb9.trans (hb8.mono hb9.size)).mono hbv.size)
                    go_roundw
                    case rel => exact ⟨j + 1, _, by omega, by go_num, rfl, hzz, HN4, HT2.out⟩
                    case measure => simp [intOf]; omega
                · have e1 : sy.take j = sy := List.take_of_length_le (by have := hnx.out; omega)
                  rw [e1] at hpj
                  have e2 : (⟨#[10]⟩ : ByteArray).size = 1 := rfl
                  have HN4 : Hid ((T ++ (⟨#[10]⟩ : ByteArray)).data.toList = proT pr ++ (ds.take (k + 1)).flatMap (fun d => declT d ++ [10])) := Lib.hid (by rw [HN.out, ba_data, hpj.out, hpS.out, HD.out]; simp)
                  have hbd := bd_num (show k ≤ 100 by omega) (show j ≤ 100 by omega)
                  have hT2 : (T ++ (⟨#[10]⟩ : ByteArray)).size ≤ bo (k + 1) := bd_out hT (by omega) (by rw [ByteArray.size_append]; omega)
                  have hzz := hrc.trans (hbv.mono hrc.size)
                  clear hxx HS
                  go_wp2_with fail
                  go_roundw
                  case rel => exact ⟨k + 1, _, by omega, by go_num, rfl, hzz, HN4, hT2⟩
                  case measure => simp [intOf]; omega
        · have ek : ds.take k = ds := List.take_of_length_le (by have := hn1.out; omega)
          rw [ek] at hp
          have hbo := bo_num (show k ≤ 100 by omega)
          have e3 : (⟨#[37, 37, 10]⟩ : ByteArray).size = 3 := rfl
          have hz3 : (S ++ (⟨#[37, 37, 10]⟩ : ByteArray)).size ≤ 40000000000 := by rw [ByteArray.size_append]; omega
          have hp3 : Hid ((S ++ (⟨#[37, 37, 10]⟩ : ByteArray)).data.toList = proT pr ++ ds.flatMap (fun d => declT d ++ [10]) ++ [37, 37, 10]) := Lib.hid (by rw [ba_data, hp.out])
          clear ek hx1 HS1 HF1 HOD HM hp hc1 hm1 hc2 hm2 hz1
          go_wp2_with fail
          go_loopw [7, 3] (fun i s wv => ∃ (j : Nat) (T : ByteArray), j ≤ n2 ∧ i = .int .i64 j ∧ s = .string T ∧ Below (w.alloc (.cells #[.string pr, .slice a1 n1 c1, .slice a2 n2 c2, .string ta] 29)).heap.size (w.alloc (.cells #[.string pr, .slice a1 n1 c1, .slice a2 n2 c2, .string ta] 29)) wv ∧ Hid (T.data.toList = (S ++ (⟨#[37, 37, 10]⟩ : ByteArray)).data.toList ++ (rs.take j).flatMap (fun r => ruleT r ++ [10])) ∧ T.size ≤ br j) (fun i _ _ => n2 - (intOf i).toNat)
          case atStart => exact ⟨0, _, Nat.zero_le _, rfl, rfl, hbr, Lib.hid (by simp), br_start hz3⟩
          case round =>
            clear q1 hbw
            obtain ⟨j, T, hj, rfl, rfl, hbv, hpj, hT⟩ := hrel
            clear hbr hS hz3 hbo e3
            rename World => wv
            have d2 := HC.out wv hbv 2 _ rfl
            have d3 := HC.out wv hbv 3 _ rfl
            have hwv := hba.trans (hbv.mono hba.size)
            have hbn := br_num (show j ≤ 100 by omega)
            by_cases hjt : j < n2
            · obtain ⟨b3, o3, r, av, rfl, er, hav, u0, u1, u2⟩ := hx2.out j hjt
              obtain ⟨a4, n4, c4, rfl, hn4, hc4, hm4, hx4⟩ := hav.open
              have hb3 := World.block_lt_of_cell? _ _ u0
              replace u0 := (hwv.cell (p := ⟨b3, o3 + j * 3, none⟩) hb3).trans u0
              replace u1 := (hwv.cell (p := ⟨b3, o3 + j * 3 + 1, none⟩) hb3).trans u1
              replace u2 := (hwv.cell (p := ⟨b3, o3 + j * 3 + 2, none⟩) hb3).trans u2
              have hz := HS2.out r (mem_at er)
              have hfr := HF2.out r (mem_at er)
              have htx := rl_of (HOR.out r (mem_at er))
              have hn4' : n4 ≤ 100 := by rw [hn4.out]; exact hfr.1
              have HA := Lib.hid (fun a ha => And.intro (hz.2 a ha) (And.intro (htx a ha) (hfr.2 a ha)))
              have HRd : Hid (ruleT r = r.left.data.toList ++ ([32, 58] ++ tailSp (barL r.alts) ++ [32, 59])) := Lib.hid (by unfold ruleT ruleTl; rw [tailSp_append, tailSp_append, tailSp_one, tailSp_one])
              have HN := Lib.hid (flat_next (fun r => ruleT r ++ [10]) er)
              have hlz := hz.1
              generalize ruleT r = rT at HRd HN
              obtain ⟨lf, al, ps⟩ := r
              simp only at u0 u1 u2 HRd hn4 hx4 HA hlz
              have j1 : (j : Int) < (n2 : Int) := by omega
              have e2 : (⟨#[32, 58]⟩ : ByteArray).size = 2 := rfl
              have hz5 : (T ++ lf ++ (⟨#[32, 58]⟩ : ByteArray)).size ≤ br j + 1000002 := by rw [ByteArray.size_append, ByteArray.size_append]; omega
              clear er hav hz hfr htx HS2 HF2 HOR hx2 hc4 hm4
              go_wp2_with fail
              go_loopw [8, 3] (fun i s wx => ∃ (q : Nat) (U : ByteArray), q ≤ n4 ∧ i = .int .i64 q ∧ s = .string U ∧ Below wv.heap.size wv wx ∧ Hid (U.data.toList = (T ++ lf ++ (⟨#[32, 58]⟩ : ByteArray)).data.toList ++ tailSp (barL (al.take q))) ∧ U.size ≤ bb j q) (fun i _ _ => n4 - (intOf i).toNat)
              case atStart => exact ⟨0, _, Nat.zero_le _, rfl, rfl, Below.refl _ _, Lib.hid (by simp [barL, tailSp]), bb_start hz5⟩
              case round =>
                obtain ⟨q, U, hq, rfl, rfl, hbx, hpq, hU⟩ := hrel
                clear d2 d3 hz5 hT hlz e2
                rename World => wx
                have d4 := HC.out wx (hbv.trans (hbx.mono hbv.size)) 2 _ rfl
                have u1x := (hbx.cell (World.block_lt_of_cell? _ _ u1)).trans u1
                have hwx := hwv.trans (hbx.mono hwv.size)
                have hbm := bb_num (show j ≤ 100 by omega) (show q ≤ 100 by omega)
                by_cases hqt : q < n4
                · obtain ⟨b5, o5, a, pv, rfl, ea, hpv, y0, y1, y2, y3, y4, y5⟩ := hx4.out q hqt
                  have hb5 := World.block_lt_of_cell? _ _ y0
                  replace y0 := (hwx.cell (p := ⟨b5, o5 + q * 6, none⟩) hb5).trans y0
                  replace y1 := (hwx.cell (p := ⟨b5, o5 + q * 6 + 1, none⟩) hb5).trans y1
                  replace y2 := (hwx.cell (p := ⟨b5, o5 + q * 6 + 2, none⟩) hb5).trans y2
                  replace y3 := (hwx.cell (p := ⟨b5, o5 + q * 6 + 3, none⟩) hb5).trans y3
                  replace y4 := (hwx.cell (p := ⟨b5, o5 + q * 6 + 4, none⟩) hb5).trans y4
                  replace y5 := (hwx.cell (p := ⟨b5, o5 + q * 6 + 5, none⟩) hb5).trans y5
                  replace hpv := hpv.below hwx
                  have hA := HA.out a (mem_at ea)
                  have HT4 := Lib.hid (fun (W : World) (hW : Below wx.heap.size wx W) => altText_any _ a W ⟨pv, rfl, hpv.below hW⟩ hA.1 hA.2.1 hA.2.2)
                  have hlen := altT_size a hA.1 hA.2.2
                  have HB := Lib.hid (bar_next ea)
                  obtain ⟨a6, n6, c6, rfl, _, _, _, _⟩ := hpv.open
                  generalize tailSp (altL a) = aT at HT4 hlen HB
                  obtain ⟨la, ⟨an, am, ap, aq⟩, ka⟩ := a
                  simp only at y0 y1 y2 y3 y4 y5 HT4
                  have q1 : (q : Int) < (n4 : Int) := by omega
                  have hrw := Below.refl wx.heap.size wx
                  have e2 : (⟨#[32, 124]⟩ : ByteArray).size = 2 := rfl
                  clear ea hpv hA hx4 HA hwv hbn hb5 hb3 u0 u1 u2
                  by_cases hq0 : q = 0
                  · have f0 : decide (0 < (q : Int)) = false := by simp; omega
                    have f0x : (q : Int) < 1 := by omega
                    have HQ0 := Lib.hid hq0
                    clear hq0
                    go_wp2_with (first | (go_at_call 43; refine (HT4.out _ hrw).mono ?_; rintro e w9 ⟨S9, rfl, hS9, hb9⟩; have hz9 : S9.size ≤ 103000000 := by rw [← ba_len, hS9]; exact hlen))
                    have hzz := hbx.trans (hb9.mono hbx.size)
                    have HX9 : Hid ((U ++ S9).data.toList = (T ++ lf ++ (⟨#[32, 58]⟩ : ByteArray)).data.toList ++ tailSp (barL (al.take (q + 1)))) := Lib.hid (by rw [HB.out, ba_data, hpq.out, hS9, if_pos HQ0.out]; simp)
                    have hU9 : (U ++ S9).size ≤ bb j (q + 1) := bb_next hU (by rw [ByteArray.size_append]; omega)
                    go_roundw
                    case rel => exact ⟨q + 1, _, by omega, by go_num, rfl, hzz, HX9, hU9⟩
                    case measure => simp [intOf]; omega
                  · have f0 : decide (0 < (q : Int)) = true := by simp; omega
                    have f0x : 0 < (q : Int) := by omega
                    have HQ0 := Lib.hid hq0
                    clear hq0
                    go_wp2_with (first | (go_at_call 43; refine (HT4.out _ hrw).mono ?_; rintro e w9 ⟨S9, rfl, hS9, hb9⟩; have hz9 : S9.size ≤ 103000000 := by rw [← ba_len, hS9]; exact hlen))
                    have hzz := hbx.trans (hb9.mono hbx.size)
                    have HX9 : Hid ((U ++ (⟨#[32, 124]⟩ : ByteArray) ++ S9).data.toList = (T ++ lf ++ (⟨#[32, 58]⟩ : ByteArray)).data.toList ++ tailSp (barL (al.take (q + 1)))) := Lib.hid (by rw [HB.out, ba_data, ba_data, hpq.out, hS9, if_neg HQ0.out]; simp)
                    have hU9 : (U ++ (⟨#[32, 124]⟩ : ByteArray) ++ S9).size ≤ bb j (q + 1) := bb_next hU (by rw [ByteArray.size_append, ByteArray.size_append]; omega)
                    go_roundw
                    case rel => exact ⟨q + 1, _, by omega, by go_num, rfl, hzz, HX9, hU9⟩
                    case measure => simp [intOf]; omega
                · have e1 : al.take q = al := List.take_of_length_le (by have := hn4.out; omega)
                  rw [e1] at hpq
                  have e2 : (⟨#[32, 59, 10]⟩ : ByteArray).size = 3 := rfl
                  have HX9 : Hid ((U ++ (⟨#[32, 59, 10]⟩ : ByteArray)).data.toList = (S ++ (⟨#[37, 37, 10]⟩ : ByteArray)).data.toList ++ (rs.take (j + 1)).flatMap (fun r => ruleT r ++ [10])) := Lib.hid (by rw [HN.out, ba_data, hpq.out, ba_data, ba_data, hpj.out, HRd.out]; simp)
                  have hU9 : (U ++ (⟨#[32, 59, 10]⟩ : ByteArray)).size ≤ br (j + 1) := bb_out hU (by omega) (by rw [ByteArray.size_append]; omega)
                  have hzz := hbv.trans (hbx.mono hbv.size)
                  clear hx4 HA
                  go_wp2_with fail
                  go_roundw
                  case rel => exact ⟨j + 1, _, by omega, by go_num, rfl, hzz, HX9, hU9⟩
                  case measure => simp [intOf]; omega
            · have e1 : rs.take j = rs := List.take_of_length_le (by have := hn2.out; omega)
              rw [e1] at hpj
              clear hx2 HS2 HF2 HOR
              go_upto_if 132 with fail
              by_cases h0 : ta.size = 0
              · have f1 : (!ta.toList.isEmpty) = false := by rw [str_empty h0]; rfl
                have HP : Hid (tailT ta = []) := Lib.hid (by unfold tailT; rw [if_pos h0])
                rw [f1]
                go_wp2_with fail
                go_ret
                exact ⟨_, rfl, by rw [hpj.out, hp3.out, HR2.out, HP.out]; simp, hwv⟩
              · have f1 : (!ta.toList.isEmpty) = true := by rw [str_some h0]; rfl
                have e2 : (⟨#[37, 37]⟩ : ByteArray).size = 2 := rfl
                have HP : Hid (tailT ta = [37, 37] ++ ta.data.toList) := Lib.hid (by unfold tailT; rw [if_neg h0])
                rw [f1]
                go_wp2_with fail
                go_ret
                exact ⟨_, rfl, by rw [ba_data, ba_data, hpj.out, hp3.out, HR2.out, HP.out]; simp, hwv⟩
end Go.Proofs.YtnoppoifepbchaaDoor
