/- May a rule, a source be? print's. -/
import Derived.Test.YtnoppoifepbchaaDoorMay7
namespace Go.Proofs.YtnoppoifepbchaaDoor

open Go.RowKit
set_option linter.unusedVariables false
set_option linter.unusedSimpArgs false

set_option maxRecDepth 100000 in
set_option maxHeartbeats 8000000 in
theorem pmayRule_any (v : Value) (r : Rl) (w : World) (h : RlV w v r) (hs : RlSmall r) (hM : MaxAt w) : Calls Tryd.prog 34 #[v] w fun e w' => e = .returned (.bool (mayRl r)) ∧ Below w.heap.size w w' := by
 obtain ⟨av, rfl, h⟩ := h
 obtain ⟨a1, n, c, rfl, hn, hc, hm, hx⟩ := h.open
 have HR : Hid (mayRl r = (isNameB r.left && (decide (n ≠ 0) && r.alts.all mayAl))) := Lib.hid (by rw [hn.out]; rfl)
 have HI := Lib.hid (fun W => isName_any r.left W hs.1)
 have HP := Lib.hid hs.2
 have HM := Lib.hid hM
 generalize mayRl r = R at HR ⊢
 generalize isNameB r.left = nb at HI HR
 obtain ⟨lf, ls, po⟩ := r
 simp only at *
 clear h hs hM
 have hba := (Below.refl w.heap.size w).alloc (Nat.le_refl _) (.cells #[.string lf, .slice a1 n c, .int .i64 po] 37)
 go_enter Tryd.func34, Tryd.ntmps34
 cases nb with
 | false =>
   go_wp2_with (first | (go_at_call 62; refine (HI.out _).mono ?_; rintro e w' ⟨rfl, rfl⟩))
   go_ret
   exact ⟨ret_bool (by rw [HR.out]; rfl), hba⟩
 | true =>
   by_cases h0 : n = 0
   · have d3 : (((n : Nat) : Int) == 0) = true := by simp; omega
     have HR2 : Hid (R = false) := Lib.hid (by rw [HR.out]; simp [h0])
     clear h0
     go_wp2_with (first | (go_at_call 62; refine (HI.out _).mono ?_; rintro e w' ⟨rfl, rfl⟩))
     go_ret
     exact ⟨ret_bool (by rw [HR2.out]), hba⟩
   · have d3 : (((n : Nat) : Int) == 0) = false := by simp; omega
     have HR2 : Hid (R = ls.all mayAl) := Lib.hid (by rw [HR.out]; simp [h0])
     clear HR
     go_wp2_with (first | (go_at_call 62; refine (HI.out _).mono ?_; rintro e w' ⟨rfl, rfl⟩))
     go_loopw [20] (fun i wr => ∃ k : Nat, k ≤ n ∧ i = .int .i64 k ∧ Below w.heap.size w wr ∧ Hid ((ls.take k).all mayAl = true)) (fun i _ => n - (intOf i).toNat)
     case atStart => exact ⟨0, Nat.zero_le _, rfl, hba, Lib.hid rfl⟩
     case round =>
      obtain ⟨k, hk, rfl, hbr, hp⟩ := hrel
      rename World => wr
      by_cases hlt : k < n
      · obtain ⟨b, o, x, pv, rfl, ex, hpv, x0, x1, x2, x3, x4, x5⟩ := hx.out k hlt
        obtain ⟨ay, ny, cy, rfl, hny, hcy, hmy, hxy⟩ := hpv.open
        have hb1 := World.block_lt_of_cell? _ _ x0
        replace x0 := (hbr.cell (p := ⟨b, o + k * 6, none⟩) hb1).trans x0
        replace x1 := (hbr.cell (p := ⟨b, o + k * 6 + 1, none⟩) hb1).trans x1
        replace x2 := (hbr.cell (p := ⟨b, o + k * 6 + 2, none⟩) hb1).trans x2
        replace x3 := (hbr.cell (p := ⟨b, o + k * 6 + 3, none⟩) hb1).trans x3
        replace x4 := (hbr.cell (p := ⟨b, o + k * 6 + 4, none⟩) hb1).trans x4
        replace x5 := (hbr.cell (p := ⟨b, o + k * 6 + 5, none⟩) hb1).trans x5
        have hz := HP.out x (mem_at ex)
        have HX : Hid (mayAl x = (x.parts.all mayPt && (noneB x.prec || symB false true x.prec))) := Lib.hid rfl
        have HZ2 := Lib.hid (fun W => isZero_any x.prec W)
        have HU2 := Lib.hid (fun W => used_any x.prec W hz.2)
        have HQ := Lib.hid hz.1
        have HNx := Lib.hid (all_next (p := mayAl) ex hp.out)
        have HF := Lib.hid (all_fails (p := mayAl) ex)
        generalize mayAl x = ab at HX HNx HF
        generalize noneB x.prec = zb at HX HZ2
        generalize symB false true x.prec = sb at HX HU2
        obtain ⟨uq, ⟨un, ul, um, up⟩, ua⟩ := x
        simp only [Sm.agg] at x0 x1 x2 x3 x4 x5 HX HZ2 HU2 HQ hny hxy
        have i1 : (k : Int) < (n : Int) := by omega
        have hbx := (Below.refl wr.heap.size wr).alloc (Nat.le_refl _) (.cells #[.slice ay ny cy, .string un, .bool ul, .int .i64 um, .int .i64 up, .int .i64 ua] 42)
        have hbr2 := hbr.trans (hbx.mono hbr.size)
        have HX6 := Lib.hid (fun W hW => box1 (w := wr) (A := #[.slice ay ny cy, .string un, .bool ul, .int .i64 um, .int .i64 up, .int .i64 ua]) (T := 42) (W := W) hW)
        clear ex hp hx hpv HP hz
        by_cases hzs : zb = false ∧ sb = false
        · obtain ⟨rfl, rfl⟩ := hzs
          have HF2 : Hid (R = false) := Lib.hid (by rw [HR2.out, HF.out (by rw [HX.out]; simp)])
          go_wp2_with (first | (go_at_call 63; refine (HZ2.out _).mono ?_; rintro e w9 ⟨rfl, hb9⟩; have s1 := HX6.out _ hb9 1 _ rfl; have s2 := HX6.out _ hb9 2 _ rfl; have s3 := HX6.out _ hb9 3 _ rfl; have s4 := HX6.out _ hb9 4 _ rfl) | (go_at_call 64; refine (HU2.out _).mono ?_; rintro e w8 ⟨rfl, hb8⟩))
          go_ret
          exact ⟨ret_bool (by rw [HF2.out]), hbr2.trans ((hb9.trans (hb8.mono hb9.size)).mono hbr2.size)⟩
        · have HX2 : Hid (ab = uq.all mayPt) := Lib.hid (by rw [HX.out]; cases zb <;> cases sb <;> simp at *)
          go_upto_region 6 with fail
          go_cut [33] from 21 to 45 (fun x wx => x = .bool false ∧ Below (wr.alloc (.cells #[.slice ay ny cy, .string un, .bool ul, .int .i64 um, .int .i64 up, .int .i64 ua] 42)).heap.size (wr.alloc (.cells #[.slice ay ny cy, .string un, .bool ul, .int .i64 um, .int .i64 up, .int .i64 ua] 42)) wx)
          case first =>
           cases zb with
           | true =>
             go_wp2_with (first | (go_at_call 63; refine (HZ2.out _).mono ?_; rintro e w9 ⟨rfl, hb9⟩))
             go_meet
             case rel => exact ⟨rfl, hb9⟩
           | false =>
             obtain rfl : sb = true := by simpa using hzs
             go_wp2_with (first | (go_at_call 63; refine (HZ2.out _).mono ?_; rintro e w9 ⟨rfl, hb9⟩; have s1 := HX6.out _ hb9 1 _ rfl; have s2 := HX6.out _ hb9 2 _ rfl; have s3 := HX6.out _ hb9 3 _ rfl; have s4 := HX6.out _ hb9 4 _ rfl) | (go_at_call 64; refine (HU2.out _).mono ?_; rintro e w8 ⟨rfl, hb8⟩))
             go_meet
             case rel => exact ⟨rfl, hb9.trans (hb8.mono hb9.size)⟩
          case rest =>
           obtain ⟨rfl, hbc⟩ := hcut
           have q0 := HX6.out wc hbc 0 _ rfl
           have hbr3 := hbr2.trans (hbc.mono hbr2.size)
           clear HX6 hbc HZ2 HU2 hzs HX hbx
           go_wp2_with fail
           go_loopw [37] (fun i wv => ∃ j : Nat, j ≤ ny ∧ i = .int .i64 j ∧ Below w.heap.size w wv ∧ Hid ((uq.take j).all mayPt = true)) (fun i _ => ny - (intOf i).toNat)
           case atStart => exact ⟨0, Nat.zero_le _, rfl, hbr3, Lib.hid rfl⟩
           case round =>
            obtain ⟨j, hj, rfl, hbv, hpj⟩ := hrel
            rename World => wv
            by_cases hjt : j < ny
            · obtain ⟨b3, o3, t, rfl, et, t0, t1, t2, t3, t4, t5⟩ := hxy.out j hjt
              have hb3 := World.block_lt_of_cell? _ _ t0
              have hb3' : b3 < w.heap.size := hb3
              replace t0 := (hbv.cell (p := ⟨b3, o3 + j * 6, none⟩) hb3').trans t0
              replace t1 := (hbv.cell (p := ⟨b3, o3 + j * 6 + 1, none⟩) hb3').trans t1
              replace t2 := (hbv.cell (p := ⟨b3, o3 + j * 6 + 2, none⟩) hb3').trans t2
              replace t3 := (hbv.cell (p := ⟨b3, o3 + j * 6 + 3, none⟩) hb3').trans t3
              replace t4 := (hbv.cell (p := ⟨b3, o3 + j * 6 + 4, none⟩) hb3').trans t4
              replace t5 := (hbv.cell (p := ⟨b3, o3 + j * 6 + 5, none⟩) hb3').trans t5
              have HPx := Lib.hid (fun (W : World) (hW : Below w.heap.size w W) => pmayPart_any t W (HQ.out t (mem_at et)) (HM.out.below hW))
              have HNy := Lib.hid (all_next (p := mayPt) et hpj.out)
              have HFy := Lib.hid (all_fails (p := mayPt) et)
              generalize mayPt t = pb at HPx HNy HFy
              obtain ⟨⟨tn, tl, tm, tp⟩, tc, tk⟩ := t
              simp only [Pt.agg] at t0 t1 t2 t3 t4 t5 HPx
              have j1 : (j : Int) < (ny : Int) := by omega
              have hbvx := hbv.alloc hbv.size (.cells #[.string tn, .bool tl, .int .i64 tm, .int .i64 tp, .string tc, .int .i64 tk] 44)
              clear et hpj hxy HQ
              cases pb with
              | false =>
                have hmb := HF.out (by rw [HX2.out]; first | exact HFy.out rfl | exact HFy.out trivial)
                go_wp2_with (first | (go_at_call 65; refine (HPx.out _ hbvx).mono ?_; rintro e w9 ⟨rfl, hb9⟩))
                go_ret
                exact ⟨ret_bool (by rw [HR2.out, hmb]), hbvx.trans (hb9.mono hbvx.size)⟩
              | true =>
                have HN4 := Lib.hid (HNy.out rfl)
                go_wp2_with (first | (go_at_call 65; refine (HPx.out _ hbvx).mono ?_; rintro e w9 ⟨rfl, hb9⟩))
                have hz2 := hbvx.trans (hb9.mono hbvx.size)
                go_roundw
                case rel => exact ⟨j + 1, by omega, by go_num, hz2, HN4⟩
                case measure => simp [intOf]; omega
            · have HN4 := Lib.hid (HNx.out (by rw [HX2.out]; exact all_done hpj.out (by have := hny.out; omega)))
              clear hxy HQ
              go_wp2_with fail
              go_roundw
              case rel => exact ⟨k + 1, by omega, by go_num, hbv, HN4⟩
              case measure => simp [intOf]; omega
      · have HX := Lib.hid (all_done hp.out (by have := hn.out; omega))
        clear hx HP
        go_wp2_with fail
        go_ret
        exact ⟨ret_bool (by rw [HR2.out, HX.out]), hbr⟩

theorem contains_pct (s : ByteArray) (w : World) (hm : MaxAt w) (hs : s.size ≤ 1000000) :
  Calls Tryd.prog 32 #[.string s, .string ⟨#[37, 125]⟩] w fun e w' => e = .returned (.bool (pctB s)) ∧ w = w' := by
 obtain ⟨m, hm⟩ := hm
 refine (Tryd.strings_Contains s ⟨#[37, 125]⟩ m w (by omega) hm).mono ?_
 rintro e w' ⟨he, rfl⟩
 refine ⟨he.trans (ret_bool ?_), rfl⟩
 have h := findW_index s 37 125 _ 0 rfl
 have hge := Lib.index_ge s.data.toList [37, 125]
 rw [List.drop_zero] at h
 have h' : findW s.size (gAt s) 37 125 0 = Lib.index s.data.toList [37, 125] := by
  refine Eq.trans h ?_
  split <;> simp_all
 unfold pctB Lib.contains
 rw [h', Bool.eq_iff_iff, decide_eq_true_iff, decide_eq_true_iff]
 show 0 ≤ Lib.index s.data.toList [37, 125] ↔ _
 omega

set_option maxRecDepth 100000 in
set_option maxHeartbeats 8000000 in
theorem pmay_any (v : Value) (s : So) (w : World) (h : SoV w v s) (hs : SoSmall s) (hM : MaxAt w) : Calls Tryd.prog 16 #[v] w fun e w' => e = .returned (.bool (maySo s)) ∧ Below w.heap.size w w' := by
 obtain ⟨dv, rv, rfl, hd, hr⟩ := h
 obtain ⟨a1, n1, c1, rfl, hn1, hc1, hm1, hx1⟩ := hd.open
 obtain ⟨a2, n2, c2, rfl, hn2, hc2, hm2, hx2⟩ := hr.open
 have HR : Hid (maySo s = (!pctB s.pro && (s.decls.all mayDc && (s.rules.all mayRl && decide (n2 ≠ 0))))) := Lib.hid (by rw [hn2.out]; rfl)
 have HS1 := Lib.hid hs.2.2.1
 have HS2 := Lib.hid hs.2.2.2
 have HM := Lib.hid hM
 have HK := Lib.hid (fun W h => contains_pct s.pro W h hs.1)
 generalize maySo s = R at HR ⊢
 generalize pctB s.pro = pb at HR HK
 obtain ⟨pr, ds, rs, ta⟩ := s
 simp only at *
 clear hd hr hs hM
 have hba := (Below.refl w.heap.size w).alloc (Nat.le_refl _) (.cells #[.string pr, .slice a1 n1 c1, .slice a2 n2 c2, .string ta] 29)
 have HC := Lib.hid (fun W hW => box1 (w := w) (A := #[.string pr, .slice a1 n1 c1, .slice a2 n2 c2, .string ta]) (T := 29) (W := W) hW)
 go_enter Tryd.func16, Tryd.ntmps16
 cases pb with
 | true =>
   go_wp2_with (first | (go_at_call 32; refine (HK.out _ (HM.out.below hba)).mono ?_; rintro e w' ⟨rfl, rfl⟩))
   go_ret
   exact ⟨ret_bool (by rw [HR.out]; rfl), hba⟩
 | false =>
   by_cases h0 : n2 = 0
   · have d3 : (((n2 : Nat) : Int) == 0) = true := by simp; omega
     have HR2 : Hid (R = false) := Lib.hid (by rw [HR.out]; simp [h0])
     clear h0
     go_wp2_with (first | (go_at_call 32; refine (HK.out _ (HM.out.below hba)).mono ?_; rintro e w' ⟨rfl, rfl⟩))
     go_ret
     exact ⟨ret_bool (by rw [HR2.out]), hba⟩
   · have d3 : (((n2 : Nat) : Int) == 0) = false := by simp; omega
     have HR2 : Hid (R = (ds.all mayDc && rs.all mayRl)) := Lib.hid (by rw [HR.out]; simp [h0])
     clear HR
     go_wp2_with (first | (go_at_call 32; refine (HK.out _ (HM.out.below hba)).mono ?_; rintro e w' ⟨rfl, rfl⟩))
     go_loopw [19] (fun i wr => ∃ k : Nat, k ≤ n1 ∧ i = .int .i64 k ∧ Below w.heap.size w wr ∧ Below (w.alloc (.cells #[.string pr, .slice a1 n1 c1, .slice a2 n2 c2, .string ta] 29)).heap.size (w.alloc (.cells #[.string pr, .slice a1 n1 c1, .slice a2 n2 c2, .string ta] 29)) wr ∧ Hid ((ds.take k).all mayDc = true)) (fun i _ => n1 - (intOf i).toNat)
     case atStart => exact ⟨0, Nat.zero_le _, rfl, hba, Below.refl _ _, Lib.hid rfl⟩
     case round =>
      obtain ⟨k, hk, rfl, hbr, hbo, hp⟩ := hrel
      rename World => wr
      have q2 := HC.out wr hbo 2 _ rfl
      by_cases hlt : k < n1
      · obtain ⟨b, o, x, sx, rfl, ex, hsx, x0, x1, x2, x3⟩ := hx1.out k hlt
        obtain ⟨ax, nx, cx, rfl, _⟩ := hsx.open
        have hb1 := World.block_lt_of_cell? _ _ x0
        replace x0 := (hbr.cell (p := ⟨b, o + k * 4, none⟩) hb1).trans x0
        replace x1 := (hbr.cell (p := ⟨b, o + k * 4 + 1, none⟩) hb1).trans x1
        replace x2 := (hbr.cell (p := ⟨b, o + k * 4 + 2, none⟩) hb1).trans x2
        replace x3 := (hbr.cell (p := ⟨b, o + k * 4 + 3, none⟩) hb1).trans x3
        have HD := Lib.hid (fun (W : World) (hW : Below w.heap.size w W) => pmayDecl_any (.agg #[.int .i64 x.kind, .string x.tag, .slice ax nx cx, .int .i64 x.pos]) x W ⟨_, rfl, hsx.below hW⟩ (HS1.out x (mem_at ex)))
        have HNx := Lib.hid (all_next (p := mayDc) ex hp.out)
        have HF := Lib.hid (all_fails (p := mayDc) ex)
        generalize mayDc x = mb at HD HNx HF
        obtain ⟨xk, xt, xs, xp⟩ := x
        simp only at x0 x1 x2 x3 HD
        have i1 : (k : Int) < (n1 : Int) := by omega
        have hbvx := hbr.alloc hbr.size (.cells #[.int .i64 xk, .string xt, .slice ax nx cx, .int .i64 xp] 51)
        clear ex hp hsx hx1 hx2 HS1 HS2
        cases mb with
        | false =>
          go_wp2_with (first | (go_at_call 33; refine (HD.out _ hbvx).mono ?_; rintro e w9 ⟨rfl, hb9⟩))
          go_ret
          exact ⟨ret_bool (by have e := HR2.out; first | (rw [e, HF.out rfl]; try rfl) | (rw [e, HF.out trivial]; try rfl)), hbvx.trans (hb9.mono hbvx.size)⟩
        | true =>
          have HN3 := Lib.hid (HNx.out rfl)
          go_wp2_with (first | (go_at_call 33; refine (HD.out _ hbvx).mono ?_; rintro e w9 ⟨rfl, hb9⟩))
          have hz2 := hbvx.trans (hb9.mono hbvx.size)
          have hbo2 := (hbo.alloc hbo.size _).trans (hb9.mono (by simp; have := hbo.size; simp at this; omega))
          go_roundw
          case rel => exact ⟨k + 1, by omega, by go_num, hz2, hbo2, HN3⟩
          case measure => simp [intOf]; omega
      · have HA := Lib.hid (all_done hp.out (by have := hn1.out; omega))
        have HR3 : Hid (R = rs.all mayRl) := Lib.hid (by rw [HR2.out, HA.out]; rfl)
        clear HR2 HA hx1 HS1 hp
        go_wp2_with fail
        go_loopw [30] (fun i wr => ∃ k : Nat, k ≤ n2 ∧ i = .int .i64 k ∧ Below w.heap.size w wr ∧ Hid ((rs.take k).all mayRl = true)) (fun i _ => n2 - (intOf i).toNat)
        case atStart => exact ⟨0, Nat.zero_le _, rfl, hbr, Lib.hid rfl⟩
        case round =>
         clear q2 hlt hbr hk hbo
         obtain ⟨k, hk, rfl, hbr, hp⟩ := hrel
         rename World => wr
         by_cases hlt : k < n2
         · obtain ⟨b, o, x, sx, rfl, ex, hsx, x0, x1, x2⟩ := hx2.out k hlt
           obtain ⟨ax, nx, cx, rfl, _⟩ := hsx.open
           have hb1 := World.block_lt_of_cell? _ _ x0
           replace x0 := (hbr.cell (p := ⟨b, o + k * 3, none⟩) hb1).trans x0
           replace x1 := (hbr.cell (p := ⟨b, o + k * 3 + 1, none⟩) hb1).trans x1
           replace x2 := (hbr.cell (p := ⟨b, o + k * 3 + 2, none⟩) hb1).trans x2
           have HD := Lib.hid (fun (W : World) (hW : Below w.heap.size w W) => pmayRule_any (.agg #[.string x.left, .slice ax nx cx, .int .i64 x.pos]) x W ⟨_, rfl, hsx.below hW⟩ (HS2.out x (mem_at ex)) (HM.out.below hW))
           have HNx := Lib.hid (all_next (p := mayRl) ex hp.out)
           have HF := Lib.hid (all_fails (p := mayRl) ex)
           generalize mayRl x = mb at HD HNx HF
           obtain ⟨xl, xs, xp⟩ := x
           simp only at x0 x1 x2 HD
           have i1 : (k : Int) < (n2 : Int) := by omega
           have hbvx := hbr.alloc hbr.size (.cells #[.string xl, .slice ax nx cx, .int .i64 xp] 37)
           clear ex hp hsx hx2 HS2
           cases mb with
           | false =>
             go_wp2_with (first | (go_at_call 34; refine (HD.out _ hbvx).mono ?_; rintro e w9 ⟨rfl, hb9⟩))
             go_ret
             exact ⟨ret_bool (by have e := HR3.out; first | (rw [e, HF.out rfl]; try rfl) | (rw [e, HF.out trivial]; try rfl)), hbvx.trans (hb9.mono hbvx.size)⟩
           | true =>
             have HN3 := Lib.hid (HNx.out rfl)
             go_wp2_with (first | (go_at_call 34; refine (HD.out _ hbvx).mono ?_; rintro e w9 ⟨rfl, hb9⟩))
             have hz2 := hbvx.trans (hb9.mono hbvx.size)
             go_roundw
             case rel => exact ⟨k + 1, by omega, by go_num, hz2, HN3⟩
             case measure => simp [intOf]; omega
         · have HX := Lib.hid (all_done hp.out (by have := hn2.out; omega))
           clear hx2 HS2
           go_wp2_with fail
           go_ret
           exact ⟨ret_bool (by rw [HR3.out, HX.out]), hbr⟩
end Go.Proofs.YtnoppoifepbchaaDoor
