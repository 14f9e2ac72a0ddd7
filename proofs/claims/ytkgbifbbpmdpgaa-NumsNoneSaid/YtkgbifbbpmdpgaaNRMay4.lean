/- May a source be? The document's. -/
import Derived.Test.YtkgbifbbpmdpgaaNOfW
import Derived.Test.YtkgbifbbpmdpgaaNROver3
import Derived.Test.YtkgbifbbpmdpgaaNREnd
import Derived.Test.YtkgbifbbpmdpgaaNRMay2
import Derived.Test.YtkgbifbbpmdpgaaNRMay3
set_option linter.unusedVariables false
set_option linter.unusedSimpArgs false
namespace Go.Proofs.Ytkgbifbbpmdpgaa

open Go.RowKit
def pctB (s : ByteArray) : Bool := decide (findW s.size (gAt s) 37 125 0 ≠ -1)
def maySo (s : So) : Bool := !pctB s.pro && (s.decls.all mayDc && (s.rules.all mayRl && decide (s.rules.length ≠ 0)))
theorem pct_at (s : ByteArray) (k : Nat) (hk : k + 1 < s.size) : ((s.extract k (k + 2)).toList == [37, 125]) = decide (gAt s k = 37 ∧ gAt s (k + 1) = 125) := by
 have e : (⟨#[37, 125]⟩ : ByteArray).toList = [37, 125] := by decide +kernel
 have h := extract_beq (s := s) (i := k) (l := [37, 125]) (by simp; omega) (by simp)
 rw [Bool.eq_iff_iff, decide_eq_true_iff, ← e]
 refine h.trans ⟨fun h => ⟨h 0 (by simp), h 1 (by simp)⟩, fun h j hj => ?_⟩
 match j, hj with
 | 0, _ => exact h.1
 | 1, _ => exact h.2
set_option maxRecDepth 100000 in
set_option maxHeartbeats 8000000 in
theorem rmay_any (v : Value) (s : So) (w : World) (h : SoV w v s) (hs : SoSmall s) : Calls Try.prog 43 #[v] w fun e w' => e = .returned (.bool (maySo s)) ∧ Below w.heap.size w w' := by
 obtain ⟨dv, rv, rfl, hd, hr⟩ := h
 obtain ⟨a1, n1, c1, rfl, hn1, hc1, hm1, hx1⟩ := hd.open
 obtain ⟨a2, n2, c2, rfl, hn2, hc2, hm2, hx2⟩ := hr.open
 have HR : Hid (maySo s = (!pctB s.pro && (s.decls.all mayDc && (s.rules.all mayRl && decide (n2 ≠ 0))))) := Lib.hid (by rw [hn2.out]; rfl)
 have HP : Hid (pctB s.pro = decide (findW s.pro.size (gAt s.pro) 37 125 0 ≠ -1)) := Lib.hid rfl
 have HS1 := Lib.hid hs.2.2.1
 have HS2 := Lib.hid hs.2.2.2
 have hps := hs.1
 have he := Lib.hid (fun k hk => pct_at s.pro k hk)
 generalize maySo s = R at HR ⊢
 generalize pctB s.pro = pb at HR HP
 obtain ⟨pr, ds, rs, ta⟩ := s
 simp only at *
 clear hd hr hs
 have hba := (Below.refl w.heap.size w).alloc (Nat.le_refl _) (.cells #[.string pr, .slice a1 n1 c1, .slice a2 n2 c2, .string ta] 25)
 have HC := Lib.hid (fun W hW => box1 (w := w) (A := #[.string pr, .slice a1 n1 c1, .slice a2 n2 c2, .string ta]) (T := 25) (W := W) hW)
 generalize gAt pr = g at *
 go_enter Try.func43, Try.ntmps43
 go_wp2_with fail
 go_loopw [3] (fun i wr => ∃ k : Nat, k ≤ pr.size ∧ i = .int .i64 k ∧ wr = (w.alloc (.cells #[.string pr, .slice a1 n1 c1, .slice a2 n2 c2, .string ta] 25)) ∧ Hid (findW pr.size g 37 125 0 = findW pr.size g 37 125 k)) (fun i _ => pr.size - (intOf i).toNat)
 case atStart => exact ⟨0, Nat.zero_le _, rfl, rfl, Lib.hid rfl⟩
 case round =>
  obtain ⟨k, hk, rfl, rfl, hp⟩ := hrel
  by_cases hlt : k + 1 < pr.size
  · by_cases hf : g k = 37 ∧ g (k + 1) = 125
    · have hq := (he.out k hlt).trans (decide_eq_true hf)
      have HPT : Hid (pb = true) := Lib.hid (by rw [HP.out, hp.out, findW, if_pos hlt, if_pos hf]; simp)
      clear hf
      go_wp2_with fail
      go_ret
      exact ⟨ret_bool (by rw [HR.out, HPT.out]; rfl), hba⟩
    · have hq := (he.out k hlt).trans (decide_eq_false hf)
      have HN : Hid (findW pr.size g 37 125 0 = findW pr.size g 37 125 (k + 1)) := Lib.hid (by rw [hp.out, findW, if_pos hlt, if_neg hf])
      clear hf
      go_wp2_with fail
      go_roundw
      case rel => exact ⟨k + 1, by omega, by go_num, by first | trivial | rfl, HN⟩
      case measure => simp [intOf]; omega
  · have HPF : Hid (pb = false) := Lib.hid (by rw [HP.out, hp.out, findW, if_neg hlt]; rfl)
    have HR2 : Hid (R = (ds.all mayDc && (rs.all mayRl && decide (n2 ≠ 0)))) := Lib.hid (by rw [HR.out, HPF.out]; rfl)
    clear HP hp HR HPF he
    go_wp2_with fail
    go_loopw [4] (fun i wr => ∃ k : Nat, k ≤ n1 ∧ i = .int .i64 k ∧ Below (w.alloc (.cells #[.string pr, .slice a1 n1 c1, .slice a2 n2 c2, .string ta] 25)).heap.size (w.alloc (.cells #[.string pr, .slice a1 n1 c1, .slice a2 n2 c2, .string ta] 25)) wr ∧ Hid ((ds.take k).all mayDc = true)) (fun i _ => n1 - (intOf i).toNat)
    case atStart => exact ⟨0, Nat.zero_le _, rfl, Below.refl _ _, Lib.hid rfl⟩
    case round =>
     clear hlt hk
     obtain ⟨k, hk, rfl, hbr, hp⟩ := hrel
     rename World => wr
     have q1 := HC.out wr hbr 1 _ rfl
     have q2 := HC.out wr hbr 2 _ rfl
     have hbw := hba.trans (hbr.mono hba.size)
     by_cases hlt : k < n1
     · obtain ⟨b, o, x, sx, rfl, ex, hsx, x0, x1, x2, x3⟩ := hx1.out k hlt
       have hb1 := World.block_lt_of_cell? _ _ x0
       replace x0 := (hbw.cell (p := ⟨b, o + k * 4, none⟩) hb1).trans x0
       replace x1 := (hbw.cell (p := ⟨b, o + k * 4 + 1, none⟩) hb1).trans x1
       replace x2 := (hbw.cell (p := ⟨b, o + k * 4 + 2, none⟩) hb1).trans x2
       replace x3 := (hbw.cell (p := ⟨b, o + k * 4 + 3, none⟩) hb1).trans x3
       have HD := Lib.hid (mayDecl_any (.agg #[.int .i64 x.kind, .string x.tag, sx, .int .i64 x.pos]) x wr ⟨sx, rfl, hsx.below hbw⟩ (HS1.out x (mem_at ex)))
       have HNx := Lib.hid (all_next (p := mayDc) ex hp.out)
       have HF := Lib.hid (all_fails (p := mayDc) ex)
       generalize mayDc x = mb at HD HNx HF
       obtain ⟨xk, xt, xs, xp⟩ := x
       simp only at x0 x1 x2 x3 HD
       have i1 : (k : Int) < (n1 : Int) := by omega
       clear ex hp hsx hx1 hx2 HS1 HS2 q2
       cases mb with
       | false =>
         go_wp2_with (first | (go_at_call 54; refine HD.out.mono ?_; rintro e w9 ⟨rfl, hb9⟩))
         go_ret
         exact ⟨ret_bool (by have e := HR2.out; first | rw [e, HF.out rfl]; rfl | rw [e, HF.out trivial]; rfl), hbw.trans (hb9.mono hbw.size)⟩
       | true =>
         have HN3 := Lib.hid (HNx.out rfl)
         go_wp2_with (first | (go_at_call 54; refine HD.out.mono ?_; rintro e w9 ⟨rfl, hb9⟩))
         have hz2 := hbr.trans (hb9.mono hbr.size)
         go_roundw
         case rel => exact ⟨k + 1, by omega, by go_num, hz2, HN3⟩
         case measure => simp [intOf]; omega
     · have HA := Lib.hid (all_done hp.out (by have := hn1.out; omega))
       have HR3 : Hid (R = (rs.all mayRl && decide (n2 ≠ 0))) := Lib.hid (by rw [HR2.out, HA.out]; rfl)
       clear HR2 HA hx1 HS1 hp
       go_wp2_with fail
       go_loopw [5] (fun i wr => ∃ k : Nat, k ≤ n2 ∧ i = .int .i64 k ∧ Below (w.alloc (.cells #[.string pr, .slice a1 n1 c1, .slice a2 n2 c2, .string ta] 25)).heap.size (w.alloc (.cells #[.string pr, .slice a1 n1 c1, .slice a2 n2 c2, .string ta] 25)) wr ∧ Hid ((rs.take k).all mayRl = true)) (fun i _ => n2 - (intOf i).toNat)
       case atStart => exact ⟨0, Nat.zero_le _, rfl, hbr, Lib.hid rfl⟩
       case round =>
        clear q1 q2 hlt hbr hbw
        obtain ⟨k, hk, rfl, hbr, hp⟩ := hrel
        rename World => wr
        have q2 := HC.out wr hbr 2 _ rfl
        have hbw := hba.trans (hbr.mono hba.size)
        by_cases hlt : k < n2
        · obtain ⟨b, o, x, sx, rfl, ex, hsx, x0, x1, x2⟩ := hx2.out k hlt
          obtain ⟨ay, ny, cy, rfl, hny, hcy, hmy, hxy⟩ := hsx.open
          have hb1 := World.block_lt_of_cell? _ _ x0
          replace x0 := (hbw.cell (p := ⟨b, o + k * 3, none⟩) hb1).trans x0
          replace x1 := (hbw.cell (p := ⟨b, o + k * 3 + 1, none⟩) hb1).trans x1
          replace x2 := (hbw.cell (p := ⟨b, o + k * 3 + 2, none⟩) hb1).trans x2
          have hz := HS2.out x (mem_at ex)
          have HI := Lib.hid (fun W => rname_any x.left W hz.1)
          have HZ := Lib.hid hz.2
          have HX : Hid (mayRl x = (isNameB x.left && (decide (ny ≠ 0) && x.alts.all mayAl))) := Lib.hid (by rw [hny.out]; rfl)
          have HNx := Lib.hid (all_next (p := mayRl) ex hp.out)
          have HF := Lib.hid (all_fails (p := mayRl) ex)
          generalize mayRl x = mb at HX HNx HF
          generalize isNameB x.left = nb at HI HX
          obtain ⟨lf, xs, xp⟩ := x
          simp only at x0 x1 x2 HX HI HZ hny hxy
          have i1 : (k : Int) < (n2 : Int) := by omega
          have hbx := (Below.refl wr.heap.size wr).alloc (Nat.le_refl _) (.cells #[.string lf, .slice ay ny cy, .int .i64 xp] 74)
          have HC2 := Lib.hid (fun W hW => box1 (w := wr) (A := #[.string lf, .slice ay ny cy, .int .i64 xp]) (T := 74) (W := W) hW)
          clear ex hp hsx hx2 HS2 hz
          have hbw2 := hbw.trans (hbx.mono hbw.size)
          have hbr2 := hbr.trans (hbx.mono hbr.size)
          cases nb with
          | false =>
            have hmb := HF.out HX.out
            go_wp2_with (first | (go_at_call 55; refine (HI.out _).mono ?_; rintro e w' ⟨rfl, rfl⟩))
            go_ret
            exact ⟨ret_bool (by rw [HR3.out, hmb]; rfl), hbw2⟩
          | true =>
            by_cases hy0 : ny = 0
            · have hmb := HF.out (by rw [HX.out]; simp [hy0])
              have d3 : (((ny : Nat) : Int) == 0) = true := by simp; omega
              clear hy0
              go_wp2_with (first | (go_at_call 55; refine (HI.out _).mono ?_; rintro e w' ⟨rfl, rfl⟩))
              go_ret
              exact ⟨ret_bool (by rw [HR3.out, hmb]; rfl), hbw2⟩
            · have d3 : (((ny : Nat) : Int) == 0) = false := by simp; omega
              have HX2 : Hid (mb = xs.all mayAl) := Lib.hid (by rw [HX.out]; simp [hy0])
              clear HX
              go_wp2_with (first | (go_at_call 55; refine (HI.out _).mono ?_; rintro e w' ⟨rfl, rfl⟩))
              go_loopw [7] (fun i wv => ∃ j : Nat, j ≤ ny ∧ i = .int .i64 j ∧ Below (wr.alloc (.cells #[.string lf, .slice ay ny cy, .int .i64 xp] 74)).heap.size (wr.alloc (.cells #[.string lf, .slice ay ny cy, .int .i64 xp] 74)) wv ∧ Hid ((xs.take j).all mayAl = true)) (fun i _ => ny - (intOf i).toNat)
              case atStart => exact ⟨0, Nat.zero_le _, rfl, Below.refl _ _, Lib.hid rfl⟩
              case round =>
               obtain ⟨j, hj, rfl, hbv, hpj⟩ := hrel
               rename World => wv
               have d1 := HC2.out wv hbv 1 _ rfl
               have hbw3 := hbw2.trans (hbv.mono hbw2.size)
               by_cases hjt : j < ny
               · obtain ⟨b3, o3, u, pu, rfl, eu, hpu, u0, u1, u2, u3, u4, u5⟩ := hxy.out j hjt
                 have hb3 := World.block_lt_of_cell? _ _ u0
                 replace u0 := (hbw3.cell (p := ⟨b3, o3 + j * 6, none⟩) (by omega)).trans u0
                 replace u1 := (hbw3.cell (p := ⟨b3, o3 + j * 6 + 1, none⟩) (by omega)).trans u1
                 replace u2 := (hbw3.cell (p := ⟨b3, o3 + j * 6 + 2, none⟩) (by omega)).trans u2
                 replace u3 := (hbw3.cell (p := ⟨b3, o3 + j * 6 + 3, none⟩) (by omega)).trans u3
                 replace u4 := (hbw3.cell (p := ⟨b3, o3 + j * 6 + 4, none⟩) (by omega)).trans u4
                 replace u5 := (hbw3.cell (p := ⟨b3, o3 + j * 6 + 5, none⟩) (by omega)).trans u5
                 have HD := Lib.hid (mayAlt_any (.agg #[pu, .string u.prec.name, .bool u.prec.lit, .int .i64 u.prec.num, .int .i64 u.prec.pos, .int .i64 u.pos]) u wv ⟨pu, rfl, hpu.below hbw3⟩ (HZ.out u (mem_at eu)))
                 have HNy := Lib.hid (all_next (p := mayAl) eu hpj.out)
                 have HFy := Lib.hid (all_fails (p := mayAl) eu)
                 generalize mayAl u = ab at HD HNy HFy
                 obtain ⟨uq, ⟨un, ul, um, up⟩, ua⟩ := u
                 simp only at u0 u1 u2 u3 u4 u5 HD
                 clear eu hpj hpu hxy HZ
                 have j1 : (j : Int) < (ny : Int) := by omega
                 cases ab with
                 | false =>
                   have hmb := HF.out (by rw [HX2.out]; first | exact HFy.out rfl | exact HFy.out trivial)
                   go_wp2_with (first | (go_at_call 56; refine HD.out.mono ?_; rintro e w9 ⟨rfl, hb9⟩))
                   go_ret
                   exact ⟨ret_bool (by rw [HR3.out, hmb]; rfl), hbw3.trans (hb9.mono hbw3.size)⟩
                 | true =>
                   have HN4 := Lib.hid (HNy.out rfl)
                   go_wp2_with (first | (go_at_call 56; refine HD.out.mono ?_; rintro e w9 ⟨rfl, hb9⟩))
                   have hz2 := hbv.trans (hb9.mono hbv.size)
                   go_roundw
                   case rel => exact ⟨j + 1, by omega, by go_num, hz2, HN4⟩
                   case measure => simp [intOf]; omega
               · have HN4 := Lib.hid (HNx.out (by rw [HX2.out]; exact all_done hpj.out (by have := hny.out; omega)))
                 have hz := hbr2.trans (hbv.mono hbr2.size)
                 clear hxy HZ
                 go_wp2_with fail
                 go_roundw
                 case rel => exact ⟨k + 1, by omega, by go_num, hz, HN4⟩
                 case measure => simp [intOf]; omega
        · have HX := Lib.hid (all_done hp.out (by have := hn2.out; omega))
          have HR4 : Hid (R = decide (n2 ≠ 0)) := Lib.hid (by rw [HR3.out, HX.out]; rfl)
          clear hx2 HS2 HR3
          go_wp2_with fail
          go_ret
          exact ⟨ret_bool (by rw [HR4.out, Bool.eq_iff_iff]; simp; omega), hbw⟩
end Go.Proofs.Ytkgbifbbpmdpgaa
