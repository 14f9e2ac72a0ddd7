/- The law PrecRises walked. -/
import Derived.Test.YtkgbifbbpmdpgaaPPr1
import Derived.Test.YtkgbifbbpmdpgaaPGrW4
import Derived.Test.YtkgbifbbpmdpgaaPGrQ
import Derived.Test.YtkgbifbbpmdpgaaPSrcJ
import Derived.Test.YtkgbifbbpmdpgaaPPrW
import Derived.Test.YtkgbifbbpmdpgaaPREnd
import Derived.IntWalk
import Derived.Outline
import Derived.Deep.DeepCutAuto
import Derived.Deep.Cut
import Derived.Deep.CutRange
set_option linter.unusedVariables false
set_option linter.unusedSimpArgs false
namespace Go.Proofs.Ytkgbifbbpmdpgaa

open Go.RowKit
theorem bk_firm {S : Nat → Prop} {w1 w2 : World} {Q : World → Prop} (h : Firm S w1 Q) (hb : Below w1.heap.size w1 w2) : Q w2 := (h.below hb).self
theorem tokLv_at {g : Gm} {t : Int} {k : Nat} (e : t = k) (h : k < g.toks.length) : tokLv g t = ((g.toks.getD k noTk).level, (g.toks.getD k noTk).assoc) := by
 subst e
 unfold tokLv
 rw [if_pos ⟨by omega, by omega⟩]
 rfl
theorem lv_nonneg {g : Gm} (h : ∀ k ∈ g.toks, 0 ≤ k.level) (t : Int) : 0 ≤ (tokLv g t).1 := by
 unfold tokLv
 split
 · rename_i ht
   have hlt : t.toNat < g.toks.length := by omega
   have hm : g.toks.getD t.toNat noTk ∈ g.toks := by rw [List.getD_eq_getElem?_getD, List.getElem?_eq_getElem hlt]; exact List.getElem_mem _
   exact h _ hm
 · exact Int.le_refl _
theorem rule_nonneg {g : Gm} (h : ∀ k ∈ g.toks, 0 ≤ k.level) (q : Int) : 0 ≤ (ruleLv g q).1 := by
 unfold ruleLv
 split
 · exact lv_nonneg h _
 · exact Int.le_refl _
theorem rises_a {g : Gm} (h : ∀ k ∈ g.toks, 0 ≤ k.level) {p t u : Int} (h1 : decLv g p t = 1) (h2 : (tokLv g t).1 < (tokLv g u).1) : decLv g p u = 1 := by
 have a := rule_nonneg h p
 have b := lv_nonneg h t
 rw [decLv_eq] at h1 ⊢
 generalize (ruleLv g p).1 = r at *
 generalize (tokLv g t).1 = x at *
 generalize (tokLv g u).1 = y at *
 split at h1
 · omega
 · rename_i hn
   rw [if_neg (by omega)]
   split at h1
   · rw [if_pos (by omega)]
   · split at h1
     · omega
     · rw [if_pos (by omega)]
theorem rises_b {g : Gm} (h : ∀ k ∈ g.toks, 0 ≤ k.level) {p q t : Int} (h1 : decLv g p t = 2) (h2 : (ruleLv g p).1 < (ruleLv g q).1) : decLv g q t = 2 := by
 have a := rule_nonneg h p
 have b := lv_nonneg h t
 rw [decLv_eq] at h1 ⊢
 generalize (ruleLv g p).1 = r at *
 generalize (ruleLv g q).1 = s at *
 generalize (tokLv g t).1 = x at *
 split at h1
 · omega
 · rename_i hn
   rw [if_neg (by omega)]
   split at h1
   · omega
   · rw [if_neg (by omega), if_pos (by omega)]
theorem rises_c (g : Gm) (p t : Int) : (decLv g p t = 0) ↔ ((ruleLv g p).1 = 0 ∨ (tokLv g t).1 = 0) := by
 rw [decLv_eq]
 constructor
 · intro h
   split at h
   · assumption
   · split at h
     · omega
     · split at h
       · omega
       · split at h
         · omega
         · split at h <;> omega
 · intro h; rw [if_pos h]
theorem wq_any (i : Int) (m : Nat) (W : World) (hi : (Lit.int .i64 i).wf = true) (h1 : 0 < m) (h2 : m ≤ 1000000) : Calls Try.prog 20 #[.int .i64 i, .int .i64 (m : Int)] W fun e w' => e = .returned (.int .i64 (i % (m : Int))) ∧ Below W.heap.size W w' :=
 (within_any i m W hi h1 h2).mono (fun e w' h => ⟨h.1, by rw [← h.2]; exact Below.refl _ _⟩)
set_option maxRecDepth 100000 in
set_option maxHeartbeats 40000000 in
theorem precRises_any (vg : Value) (g : Gr) (pp qq tt uu : Int) {w : World} (hg : GrV w vg g) (hIg : GrIn g) (hpp : (Lit.int .i64 pp).wf = true) (hqq : (Lit.int .i64 qq).wf = true) (htt : (Lit.int .i64 tt).wf = true) (huu : (Lit.int .i64 uu).wf = true) :
  Calls Try.prog 6 #[vg, .int .i64 pp, .int .i64 qq, .int .i64 tt, .int .i64 uu] w fun e w' => e = .returned (.bool true) ∧ Below w.heap.size w w' := by
 have HSg := Lib.hid (fun (X : World) (hX : Below w.heap.size w X) => source_any vg g X (hg.below hX) hIg)
 obtain ⟨hs2, hf2⟩ := srcG_small g
 have hok := srcG_ok g
 have hlv := levels_ok (srcG g)
 have hp1 := prods_ok (so := srcG g) hok
 have hp2 : (srcG g).pro = ⟨#[]⟩ := rfl
 have ht2 : (srcG g).tail = ⟨#[]⟩ := rfl
 unfold SrcGo at HSg
 generalize srcG g = s at HSg hs2 hf2 hok hlv hp1 hp2 ht2
 obtain ⟨rv, lv, iv, rfl, hrv, hlvv, hiv⟩ := hg.is
 obtain ⟨ga1, gn1, gc1, rfl, _, _, _, _⟩ := hrv.open
 obtain ⟨ga2, gn2, gc2, rfl, _, _, _, _⟩ := hlvv.open
 obtain ⟨ga3, gn3, gc3, rfl, _, _, _, _⟩ := hiv.open
 generalize g.nons = gn at HSg ⊢
 generalize g.bare = gb at HSg ⊢
 clear hrv hlvv hiv hIg hg
 have hb1 := (Below.refl w.heap.size w).alloc (Nat.le_refl _) (.cells #[.int .i64 gn, .slice ga1 gn1 gc1, .slice ga2 gn2 gc2, .slice ga3 gn3 gc3, .bool gb] 29)
 have hG0 := heap_new w #[.int .i64 gn, .slice ga1 gn1 gc1, .slice ga2 gn2 gc2, .slice ga3 gn3 gc3, .bool gb] 29 _ rfl
 have HW := Lib.hid (precWakes_any (w.alloc (.cells #[.int .i64 gn, .slice ga1 gn1 gc1, .slice ga2 gn2 gc2, .slice ga3 gn3 gc3, .bool gb] 29)))
 have hz0 : (w.alloc (.cells #[.int .i64 gn, .slice ga1 gn1 gc1, .slice ga2 gn2 gc2, .slice ga3 gn3 gc3, .bool gb] 29)).heap.size = w.heap.size + 1 := by simp
 go_enter Try.func6, Try.ntmps6
 go_upto_region 3 with (first | (go_at_call 10; (with_reducible refine HW.out.mono ?_); rintro e w1 ⟨rfl, hbw⟩))
 have hbz := hb1.trans (hbw.mono hb1.size)
 have hG1 := (hbw.block w.heap.size (by omega)).trans hG0
 have g0 := cell_of_row w1 w.heap.size 0 _ _ _ hG1
 have g1 := cell_of_row w1 w.heap.size 1 _ _ _ hG1
 have g2 := cell_of_row w1 w.heap.size 2 _ _ _ hG1
 have g3 := cell_of_row w1 w.heap.size 3 _ _ _ hG1
 have g4 := cell_of_row w1 w.heap.size 4 _ _ _ hG1
 simp only [List.getElem?_toArray, List.getElem?_cons_succ, List.getElem?_cons_zero] at g0 g1 g2 g3 g4
 have HS1 := Lib.hid (HSg.out _ hbz)
 have HGr := Lib.hid (fun (X : World) (d r : Option Addr) (n1 c1 n2 c2 : Nat) (h : SoV X (.agg #[.string ⟨#[]⟩, .slice d n1 c1, .slice r n2 c2, .string ⟨#[]⟩]) s) => by
  have := grammar_any (w := X) (so := s) (a1 := d) (a2 := r) (n1 := n1) (c1 := c1) (n2 := n2) (c2 := c2) (by rw [hp2, ht2]; exact h) hs2 hf2
  rw [hp2, ht2] at this
  unfold GrGo at this
  rw [hok] at this
  exact this)
 have HOK := Lib.hid (okOf_w hok)
 clear HSg hs2 hf2 HW hG0 hb1 hbw hG1 hz0
 generalize gmOf s = g at HGr HOK hlv hp1
 generalize hpr : g.pro = pr at HGr
 generalize htl : g.tail = tl at HGr
 go_upto_region 4 with (first
  | (go_at_call 12; (with_reducible refine HS1.out.mono ?_); rintro e w2 ⟨dQ, rQ, mQ, cQ, nQ, gQ, TQ, rfl, hFQ, hTQ, hbQ⟩)
  | (go_at_call 13; (with_reducible refine (HGr.out _ _ _ _ _ _ _ hFQ.self).mono ?_); rintro e w3 ⟨t, n, p, m1, d1, m2, d2, m3, d3, S, rfl, hFg, hSg, hb3⟩))
 have hk4 : Below w3.heap.size w3 (w3.alloc (.cells #[.slice t m1 d1, .slice n m2 d2, .slice p m3 d3, .string pr, .string tl] 38)) := (Below.refl _ _).alloc (Nat.le_refl _) _
 have hrN := ofMade w3 #[.slice t m1 d1, .slice n m2 d2, .slice p m3 d3, .string pr, .string tl] 38 w3.heap.size rfl
 have hFg4 := hFg.below hk4
 have hbq := hbz.trans (hbQ.mono hbz.size)
 have hbr := hbq.trans (hb3.mono hbq.size)
 have hbr4 := hbr.trans (hk4.mono hbr.size)
 clear HGr hFg hb3 hk4 hSg hFQ hTQ hbQ HS1 g0 g1 g2 g3 g4 hbq hbr
 generalize w3.alloc (.cells #[.slice t m1 d1, .slice n m2 d2, .slice p m3 d3, .string pr, .string tl] 38) = W4 at *
 generalize w3.heap.size = Bg at *
 have HG : Hid (∀ X, Below W4.heap.size W4 X → GmO X t n p m1 d1 m2 d2 m3 d3 pr tl g ∧ X.cell? ⟨Bg, 0, none⟩ = some (.slice t m1 d1) ∧ X.cell? ⟨Bg, 1, none⟩ = some (.slice n m2 d2) ∧ X.cell? ⟨Bg, 2, none⟩ = some (.slice p m3 d3) ∧ X.cell? ⟨Bg, 3, none⟩ = some (.string pr) ∧ X.cell? ⟨Bg, 4, none⟩ = some (.string tl)) := Lib.hid (fun X hX => by
  have hr := (hX.block Bg (Array.getElem?_eq_some_iff.1 hrN).1).trans hrN
  refine ⟨bk_firm hFg4 hX, cell_of_row X _ 0 _ _ _ hr, cell_of_row X _ 1 _ _ _ hr, cell_of_row X _ 2 _ _ _ hr, cell_of_row X _ 3 _ _ _ hr, cell_of_row X _ 4 _ _ _ hr⟩)
 clear hFg4 hrN hpr htl hp2 ht2 hok
 have K0 := HG.out _ (Below.refl _ _)
 obtain ⟨a3, l3, c3, e3, hl3, _, _, _⟩ := K0.1.pd.open
 obtain ⟨a1, l1, c1, e1, hl1, _, _, hx1⟩ := K0.1.tk.open
 cases e3
 cases e1
 have q3 : m3 ≤ 60 := by have := HOK.out.pd; have := hl3.out; omega
 have q3' : 1 ≤ m3 := by have := hl3.out; omega
 have q1 : m1 ≤ 40 := by have := HOK.out.tk; have := hl1.out; omega
 have q1' : 3 ≤ m1 := by have := HOK.out.t3; have := hl1.out; omega
 obtain ⟨_, j0, j1, j2, j3, j4⟩ := id K0
 have key : ∀ (i : Int) (m : Nat), 1 ≤ m → ∃ k : Nat, k < m ∧ i % (m : Int) = k := fun i m h1 => by
  have h0 := Int.emod_nonneg i (show (m : Int) ≠ 0 by omega)
  have h3 := Int.emod_lt_of_pos i (show (0 : Int) < m by omega)
  exact ⟨(i % (m : Int)).toNat, by omega, by omega⟩
 obtain ⟨P, hP, eP⟩ := key pp m3 q3'
 obtain ⟨Q, hQ, eQ⟩ := key qq m3 q3'
 obtain ⟨T, hT, eT'⟩ := key tt m1 (by omega)
 obtain ⟨U, hU, eU'⟩ := key uu m1 (by omega)
 obtain ⟨b1, o1, hb1, _, _, _, y3, _, _⟩ := hx1.out T hT
 subst hb1
 obtain ⟨b2, o2, hb2, _, _, _, z3, _, _⟩ := hx1.out U hU
 cases hb2
 have eT := tokLv_at (g := g) (t := (T : Int)) rfl (by rw [← hl1.out]; exact hT)
 have eU := tokLv_at (g := g) (t := (U : Int)) rfl (by rw [← hl1.out]; exact hU)
 have HA := Lib.hid (fun h1 h2 => rises_a hlv (p := (P : Int)) (t := (T : Int)) (u := (U : Int)) h1 h2)
 have HB := Lib.hid (fun h1 h2 => rises_b hlv (p := (P : Int)) (q := (Q : Int)) (t := (T : Int)) h1 h2)
 have HC := Lib.hid (rises_c g (P : Int) (T : Int))
 rw [eT] at HC
 rw [eT, eU] at HA
 simp only at HA HC
 have HPd1 := Lib.hid (fun (X : World) (hX : Below W4.heap.size W4 X) => pdec_any (HG.out X hX).1 (P : Int) (T : Int))
 have HPd2 := Lib.hid (fun (X : World) (hX : Below W4.heap.size W4 X) => pdec_any (HG.out X hX).1 (P : Int) (U : Int))
 have HPd3 := Lib.hid (fun (X : World) (hX : Below W4.heap.size W4 X) => pdec_any (HG.out X hX).1 (Q : Int) (T : Int))
 have HR1 := Lib.hid (fun (X : World) (hX : Below W4.heap.size W4 X) => prule_any (HG.out X hX).1 (P : Int))
 have HR2 := Lib.hid (fun (X : World) (hX : Below W4.heap.size W4 X) => prule_any (HG.out X hX).1 (Q : Int))
 generalize decLv g (P : Int) (T : Int) = D1 at *
 generalize decLv g (P : Int) (U : Int) = D2 at *
 generalize decLv g (Q : Int) (T : Int) = D3 at *
 generalize ruleLv g (P : Int) = RP at *
 generalize ruleLv g (Q : Int) = RQ at *
 obtain ⟨ra, ra2⟩ := RP
 obtain ⟨rb, rb2⟩ := RQ
 simp only at HA HB HC HR1 HR2
 have HY := Lib.hid (fun (X : World) (hX : Below W4.heap.size W4 X) => And.intro (cell_up hX y3) (cell_up hX z3))
 generalize (g.toks.getD T noTk).level = LT at *
 generalize (g.toks.getD U noTk).level = LU at *
 have HCE := Lib.hid (fun (X : World) (hX : Below W4.heap.size W4 X) => (HG.out X hX).2)
 have i1 : (T : Int) < (m1 : Int) := by omega
 have i2 : (U : Int) < (m1 : Int) := by omega
 have HEq := Lib.hid (And.intro eP (And.intro eQ (And.intro eT' eU')))
 have n1' : 0 < m1 := by omega
 have n3' : 0 < m3 := by omega
 have n1'' : m1 ≤ 1000000 := by omega
 have n3'' : m3 ≤ 1000000 := by omega
 clear K0 hl3 hl1 hx1 eT eU hlv hp1 HOK HG y3 z3 key hP hQ hT hU eP eQ eT' eU'
 have v0 := over_cell j0
 have v1 := over_cell j1
 have v2 := over_cell j2
 have v3 := over_cell j3
 have v4 := over_cell j4
 go_upto_region 6 with fail
 refine wp_region_over (by kernel_rfl) (by kernel_rfl) ?_
 repeat (first | go_big_quiet_skip | (go_big_quiet_want; go_big_quiet_op; first | go_big_quiet_on | (apply Exists.intro; refine ⟨fun _ => ?_, ?_⟩; (first | (go_at_call 20; exact calls_over (wq_any _ _ _ (by assumption) (by assumption) (by assumption)) (fun e w1 h => h))); go_big_quiet_on)))
 refine wpQuiet_nil ?_
 intro _ hw'
 obtain ⟨V9, hw''⟩ := hw'
 subst hw''
 have hz := over_below W4 V9
 generalize over W4 V9 = w5 at hz ⊢
 have heq := HEq.out
 rw [heq.1, heq.2.1, heq.2.2.1, heq.2.2.2]
 clear v0 v1 v2 v3 v4 j0 j1 j2 j3 j4 heq HEq hpp hqq htt huu n1' n3' n1'' n3''
 obtain ⟨k0, k1, k2, k3, k4⟩ := HCE.out _ hz
 go_upto_region 10 with (first
  | (go_at_call 14; (with_reducible refine (HR1.out _ hz).mono ?_); rintro e w6 ⟨rfl, hb6⟩; have f6 := hz.trans (hb6.mono hz.size); obtain ⟨l0, l1, l2, l3, l4⟩ := HCE.out _ f6)
  | (go_at_call 14; (with_reducible refine (HR2.out _ f6).mono ?_); rintro e w7 ⟨rfl, hb7⟩; have f7 := f6.trans (hb7.mono f6.size); obtain ⟨o0, o1', o2', o3, o4⟩ := HCE.out _ f7)
  | (go_at_call 16; (with_reducible refine (HPd1.out _ f7).mono ?_); rintro e w8 ⟨rfl, hb8⟩; have f8 := f7.trans (hb8.mono f7.size)))
 obtain ⟨r0, r1, r2, r3, r4⟩ := HCE.out _ f8
 obtain ⟨y3, z3⟩ := HY.out _ f8
 clear k0 k1 k2 k3 k4 l0 l1 l2 l3 l4 o0 o1' o2' o3 o4 hb6 hb7 hb8 f6 f7 hz HR1 HR2 HPd1
 go_cut [87] from 64 to 87 (fun x87 wx => x87 = .bool false ∧ Below W4.heap.size W4 wx)
 case first =>
  have v0 := over_cell r0
  have v1 := over_cell r1
  have v2 := over_cell r2
  have v3 := over_cell r3
  have v4 := over_cell r4
  have vy := over_cell y3
  have vz := over_cell z3
  have HPd := Lib.hid (fun (V : World) => HPd2.out _ (f8.trans ((over_below w8 V).mono f8.size)))
  by_cases hd : D1 = 1
  · have d1 : (D1 == 1) = true := by simp [hd]
    by_cases hl : LT < LU
    · have hd2 := HA.out hd hl
      rw [hd2] at HPd
      clear hd2 hd
      go_upto_region 10 with fail
      refine wp_region_over (by kernel_rfl) (by kernel_rfl) ?_
      repeat (first | go_big_quiet_skip | (go_big_quiet_want; go_big_quiet_op; first | go_big_quiet_on | (apply Exists.intro; refine ⟨fun _ => ?_, ?_⟩; (first | (go_at_call 16; exact calls_over (HPd.out _) (fun e w1 h => h))); go_big_quiet_on)))
      refine wpQuiet_nil ?_
      intro _ hw'
      obtain ⟨V9, hw''⟩ := hw'
      subst hw''
      have hz := over_below w8 V9
      generalize over w8 V9 = w9 at hz ⊢
      have f9 := f8.trans (hz.mono f8.size)
      go_wp2_with fail
      go_meet
      case rel => exact ⟨rfl, f9⟩
    · clear hd
      go_upto_region 10 with fail
      refine wp_region_over (by kernel_rfl) (by kernel_rfl) ?_
      repeat (first | go_big_quiet_skip | (go_big_quiet_want; go_big_quiet_op; first | go_big_quiet_on | (apply Exists.intro; refine ⟨fun _ => ?_, ?_⟩; (first | (go_at_call 16; exact calls_over (HPd.out _) (fun e w1 h => h))); go_big_quiet_on)))
      refine wpQuiet_nil ?_
      intro _ hw'
      obtain ⟨V9, hw''⟩ := hw'
      subst hw''
      have hz := over_below w8 V9
      generalize over w8 V9 = w9 at hz ⊢
      have f9 := f8.trans (hz.mono f8.size)
      go_wp2_with fail
      go_meet
      case rel => exact ⟨rfl, f9⟩
  · have d1 : (D1 == 1) = false := by simpa using hd
    clear hd
    go_upto_region 10 with fail
    refine wp_region_over (by kernel_rfl) (by kernel_rfl) ?_
    repeat (first | go_big_quiet_skip | (go_big_quiet_want; go_big_quiet_op; first | go_big_quiet_on | (apply Exists.intro; refine ⟨fun _ => ?_, ?_⟩; (first | (go_at_call 16; exact calls_over (HPd.out _) (fun e w1 h => h))); go_big_quiet_on)))
    refine wpQuiet_nil ?_
    intro _ hw'
    obtain ⟨V9, hw''⟩ := hw'
    subst hw''
    have hz := over_below w8 V9
    generalize over w8 V9 = w9 at hz ⊢
    have f9 := f8.trans (hz.mono f8.size)
    go_wp2_with fail
    go_meet
    case rel => exact ⟨rfl, f9⟩
 case rest =>
  obtain ⟨rfl, f9⟩ := hcut
  rename World => w9
  clear r0 r1 r2 r3 r4 y3 z3 f8 HPd2 HA
  obtain ⟨r0, r1, r2, r3, r4⟩ := HCE.out _ f9
  obtain ⟨y3, z3⟩ := HY.out _ f9
  go_upto_region 12 with fail
  go_cut [101] from 88 to 101 (fun x101 wx => x101 = .bool false ∧ Below W4.heap.size W4 wx)
  case first =>
   have HPd := Lib.hid (HPd3.out _ f9)
   by_cases hd : D1 = 2
   · have d1 : (D1 == 2) = true := by simp [hd]
     by_cases hl : ra < rb
     · have hd2 := HB.out hd hl
       rw [hd2] at HPd
       clear hd2 hd
       go_wp2_with (first | (go_at_call 16; (with_reducible refine HPd.out.mono ?_); rintro e w10 ⟨rfl, hb10⟩; have f10 := f9.trans (hb10.mono f9.size)))
       go_meet
       case rel => exact ⟨rfl, f10⟩
     · clear hd
       go_wp2_with fail
       go_meet
       case rel => exact ⟨rfl, f9⟩
   · have d1 : (D1 == 2) = false := by simpa using hd
     clear hd
     go_wp2_with fail
     go_meet
     case rel => exact ⟨rfl, f9⟩
  case rest =>
   obtain ⟨rfl, f10⟩ := hcut
   rename World => w10
   clear r0 r1 r2 r3 r4 y3 z3 f9 HPd3 HB
   obtain ⟨r0, r1, r2, r3, r4⟩ := HCE.out _ f10
   obtain ⟨y3, z3⟩ := HY.out _ f10
   have hbF := hbr4.trans (f10.mono hbr4.size)
   by_cases ha : ra = 0
   · have hd := HC.out.2 (.inl ha)
     have d1 : (D1 == 0) = true := by simp [hd]
     have d2 : (ra == 0) = true := by simp [ha]
     go_wp2_with fail
     go_ret
     exact ⟨rfl, hbF⟩
   · have d2 : (ra == 0) = false := by simpa using ha
     by_cases hl : LT = 0
     · have hd := HC.out.2 (.inr hl)
       have d1 : (D1 == 0) = true := by simp [hd]
       have d3 : (LT == 0) = true := by simp [hl]
       go_wp2_with fail
       go_ret
       exact ⟨rfl, hbF⟩
     · have d3 : (LT == 0) = false := by simpa using hl
       have d1 : (D1 == 0) = false := by
        cases hq : (D1 == 0) with
        | false => rfl
        | true => exact ((HC.out.1 (by simpa using hq)).elim ha hl).elim
       go_wp2_with fail
       go_ret
       exact ⟨rfl, hbF⟩
end Go.Proofs.Ytkgbifbbpmdpgaa
