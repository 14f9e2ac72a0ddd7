/- The document's Of, walked whole. -/
import Derived.Test.YtkgbifbbpmdpgaaNOf21
import Derived.Test.YtkgbifbbpmdpgaaNOfW
import Derived.Test.YtkgbifbbpmdpgaaNRMay4
import Derived.Deep.OwnRows
import Derived.Deep.RegionLaw
import Derived.Deep.CutRange
import Derived.Deep.CutBlock
import Derived.Outline
import Derived.IntWalk
import Derived.Deep.DeepCutAuto
import Derived.Deep.Cut
set_option linter.unusedVariables false
set_option linter.unusedSimpArgs false
namespace Go.Proofs.Ytkgbifbbpmdpgaa

open Go.RowKit
theorem ofBoolInfo : (Try.prog.info? 4).map (fun i => (i.zero, i.size, i.bytes)) = some (some (.bool false), 1, 1) := by kernel_rfl
theorem ofKeep (w : World) (o : Obj) {b : Nat} {x : Obj} (h : w.heap[b]? = some x) : (w.alloc o).heap[b]? = some x := ((Below.refl w.heap.size w).alloc (Nat.le_refl _) o).block b (Array.getElem?_eq_some_iff.1 h).1 |>.trans h
theorem ofMade (w : World) (cs : Array Value) (T : TypeId) (b : Nat) (hb : b = w.heap.size) : (w.alloc (.cells cs T)).heap[b]? = some (.cells cs T (0, 0)) := by subst hb; exact heap_alloc_new w _
theorem ofGmInfo : (Try.prog.info? 38).map (·.size) = some 5 := by kernel_rfl
theorem results_cell_three {fn : Func} {p q r s : Tmp} {ty : TypeId} {P : Program} (h : fn.results = #[.cell p ty, .tmp q, .tmp r, .tmp s]) (tmps : Array Value) (w : World) (g : Nat) (t : TypeId) (cs : Array Value) (fr : Nat × Nat) {fs : Array Field}
  (hp : tmps.getD p undef = .pointer (some ⟨g, 0, none⟩)) {u v x : Value} (hv : tmps.getD q undef = u) (hv2 : tmps.getD r undef = v) (hv3 : tmps.getD s undef = x) (hg : w.heap[g]? = some (.cells cs t fr))
  (hu : P.underlying ty = some (.struct fs)) (hi : (P.info? ty).map (·.size) = some cs.size) :
  (results fn tmps).run P w = .ok (.tuple #[.agg cs, u, v, x]) w := by
 have hp' : tmps[p]?.getD undef = .pointer (some ⟨g, 0, none⟩) := by simpa using hp
 subst hv hv2 hv3
 simp [results, h, hp', asAddr, run_loadVar_row w g t ty cs fr _ hg hu rfl hi]
theorem block_set5 {w : World} {b : Nat} {c0 c1 c2 c3 c4 : Value} {T : TypeId} (h : w.heap[b]? = some (.cells #[c0, c1, c2, c3, c4] T (0, 0))) (x0 x1 x2 x3 x4 : Value) :
  (((((w.setCell ⟨b, 0, none⟩ x0).setCell ⟨b, 1, none⟩ x1).setCell ⟨b, 2, none⟩ x2).setCell ⟨b, 3, none⟩ x3).setCell ⟨b, 4, none⟩ x4).heap[b]? = some (.cells #[x0, x1, x2, x3, x4] T (0, 0)) :=
 block_setCell (j := 4) (u := x4) (block_setCell (j := 3) (u := x3) (block_setCell (j := 2) (u := x2) (block_setCell (j := 1) (u := x1) (block_setCell (j := 0) (u := x0) h))))
theorem set5_below {w0 w : World} {b n : Nat} (h : Below n w0 w) (hn : n ≤ b) (x0 x1 x2 x3 x4 : Value) : Below n w0 (((((w.setCell ⟨b, 0, none⟩ x0).setCell ⟨b, 1, none⟩ x1).setCell ⟨b, 2, none⟩ x2).setCell ⟨b, 3, none⟩ x3).setCell ⟨b, 4, none⟩ x4) :=
 ((((h.setCell (p := ⟨b, 0, none⟩) hn x0).setCell (p := ⟨b, 1, none⟩) hn x1).setCell (p := ⟨b, 2, none⟩) hn x2).setCell (p := ⟨b, 3, none⟩) hn x3).setCell (p := ⟨b, 4, none⟩) hn x4
theorem OfZ.drew {w0 w : World} {M : Nat} {g : Gm} (h : OfZ w0 w M g) : OfZ w0 w.drew M g := by
 obtain ⟨t, n, p, n1, c1, n2, c2, n3, c3, rest, S, h1, h2, h3, h4, h5⟩ := h
 exact ⟨t, n, p, n1, c1, n2, c2, n3, c3, rest, S, h1, h2, h3.keep (fun b hb => rfl), h4, h5.drew⟩
theorem set5_far {w : World} {b q : Nat} (h : b ≠ q) (x0 x1 x2 x3 x4 : Value) : (((((w.setCell ⟨q, 0, none⟩ x0).setCell ⟨q, 1, none⟩ x1).setCell ⟨q, 2, none⟩ x2).setCell ⟨q, 3, none⟩ x3).setCell ⟨q, 4, none⟩ x4).heap[b]? = w.heap[b]? :=
 (Below.heap_setCell _ _ _ b h).trans ((Below.heap_setCell _ _ _ b h).trans ((Below.heap_setCell _ _ _ b h).trans ((Below.heap_setCell _ _ _ b h).trans (Below.heap_setCell _ _ _ b h))))
def ofAll (so : So) : Gm × Int × Int × ByteArray := if maySo so = true then ofG so else (noGm, 1, 0, ⟨#[]⟩)
theorem numTo_prods (m : Mk) (nx : Int) : ∀ j, (numTo m nx j).1.prods = m.prods
 | 0 => rfl
 | j + 1 => by
   show (numSt _ (numTo m nx j)).1.prods = _
   unfold numSt
   split
   · exact numTo_prods m nx j
   · exact numTo_prods m nx j
theorem may_kinds {so : So} (h : maySo so = true) : (∀ d ∈ so.decls, 1 ≤ d.kind ∧ d.kind ≤ 6) ∧ so.rules.length ≠ 0 := by
 simp only [maySo, Bool.and_eq_true, List.all_eq_true, decide_eq_true_eq] at h
 refine ⟨fun d hd => ?_, h.2.2.2⟩
 have := h.2.1 d hd
 simp only [mayDc, dcB, Bool.and_eq_true, decide_eq_true_eq] at this
 exact ⟨this.1.1, this.1.2.1⟩
theorem noGm_gm (X : World) : GmV X (.agg #[.slice none 0 0, .slice none 0 0, .slice none 0 0, .string ⟨#[]⟩, .string ⟨#[]⟩]) noGm :=
 ⟨_, _, _, rfl, ListV.nil _ _ _, ListV.nil _ _ _, ListV.nil _ _ _⟩
theorem may_lits {so : So} (h : maySo so = true) : (∀ d ∈ so.decls, ∀ x ∈ d.syms, x.lit = true → 1 ≤ x.name.size) ∧
  (∀ r ∈ so.rules, ∀ a ∈ r.alts, (∀ p ∈ a.parts, p.code.size = 0 → p.sym.lit = true → 1 ≤ p.sym.name.size) ∧ (a.prec.name.size ≠ 0 → a.prec.lit = true → 1 ≤ a.prec.name.size)) := by
 have key : ∀ (b c : Bool) (x : Sm), symB b c x = true → x.lit = true → 1 ≤ x.name.size := fun b c x h hl => by
  unfold symB at h
  rw [if_pos hl] at h
  have := (of_decide_eq_true h).2.1
  omega
 simp only [maySo, Bool.and_eq_true, List.all_eq_true, decide_eq_true_eq] at h
 refine ⟨fun d hd x hx hl => ?_, fun r hr a ha => ⟨fun p hp hc hl => ?_, fun h0 _ => by omega⟩⟩
 · have := h.2.1 d hd
   simp only [mayDc, Bool.and_eq_true, List.all_eq_true] at this
   exact key _ _ x (this.2 x hx) hl
 · have := h.2.2.1 r hr
   simp only [mayRl, mayAl, Bool.and_eq_true, List.all_eq_true] at this
   have hp2 := (this.2.2 a ha).1 p hp
   unfold mayPt at hp2
   rw [if_pos hc] at hp2
   exact key _ _ _ hp2 hl
set_option maxRecDepth 100000 in
set_option maxHeartbeats 100000000 in
theorem of_any (v : Value) (so : So) (w : World) (h : SoV w v so) (hs : SoSmall so) (hB : SoB so) : Calls Try.prog 35 #[v] w (GmGo (ofAll so) w) := by
 obtain ⟨dv, rv, rfl, hd, hr⟩ := h
 obtain ⟨a1, n1, c1, rfl, hn1, hc1, hm1, hx1⟩ := hd.open
 obtain ⟨a2, n2, c2, rfl, hn2, hc2, hm2, hx2⟩ := hr.open
 have HRes : Hid (ofAll so = if maySo so = true then ofG so else (noGm, 1, 0, ⟨#[]⟩)) := Lib.hid rfl
 have HMay := Lib.hid (fun (V : World) (hV : Below w.heap.size w V) => rmay_any (.agg #[.string so.pro, .slice a1 n1 c1, .slice a2 n2 c2, .string so.tail]) so V ⟨_, _, rfl, hd.below hV, hr.below hV⟩ hs)
 have HK := Lib.hid (fun (h : maySo so = true) => And.intro (may_kinds h) (may_lits h))
 have HFd : Hid (∀ V, Below w.heap.size w V → DcsV V (.slice a1 n1 c1) so.decls) := Lib.hid (fun V hV => hd.below hV)
 have HFr : Hid (∀ V, Below w.heap.size w V → RlsV V (.slice a2 n2 c2) so.rules) := Lib.hid (fun V hV => hr.below hV)
 have HSB := Lib.hid hB
 have HRO := Lib.hid (fun (i : Nat) (hi : i < n2) => hx2.out i hi)
 clear hx1 hx2 hd hr hs hB
 generalize ofAll so = RES at HRes ⊢
 generalize hsp : so.pro = sp at HMay ⊢
 generalize hst : so.tail = stl at HMay ⊢
 have HSP := Lib.hid hsp
 have HST := Lib.hid hst
 clear hsp hst
 generalize hmm : maySo so = may at HRes HMay HK
 have HMM := Lib.hid hmm
 clear hmm
 have hb2 : Below w.heap.size w ((w.alloc (.cells #[.string sp, .slice a1 n1 c1, .slice a2 n2 c2, .string stl] 25)).alloc (.cells #[.slice none 0 0, .slice none 0 0, .slice none 0 0, .string ⟨#[]⟩, .string ⟨#[]⟩] 38)) := ((Below.refl w.heap.size w).alloc (Nat.le_refl _) _).alloc (by simp) _
 have hrS : ((w.alloc (.cells #[.string sp, .slice a1 n1 c1, .slice a2 n2 c2, .string stl] 25)).alloc (.cells #[.slice none 0 0, .slice none 0 0, .slice none 0 0, .string ⟨#[]⟩, .string ⟨#[]⟩] 38)).heap[w.heap.size]? = some (.cells #[.string sp, .slice a1 n1 c1, .slice a2 n2 c2, .string stl] 25 (0, 0)) := ofKeep _ _ (ofMade w _ _ _ rfl)
 have hrG : ((w.alloc (.cells #[.string sp, .slice a1 n1 c1, .slice a2 n2 c2, .string stl] 25)).alloc (.cells #[.slice none 0 0, .slice none 0 0, .slice none 0 0, .string ⟨#[]⟩, .string ⟨#[]⟩] 38)).heap[w.heap.size + 1]? = some (.cells #[.slice none 0 0, .slice none 0 0, .slice none 0 0, .string ⟨#[]⟩, .string ⟨#[]⟩] 38 (0, 0)) := ofMade _ _ _ _ (by simp)
 have hz2 : ((w.alloc (.cells #[.string sp, .slice a1 n1 c1, .slice a2 n2 c2, .string stl] 25)).alloc (.cells #[.slice none 0 0, .slice none 0 0, .slice none 0 0, .string ⟨#[]⟩, .string ⟨#[]⟩] 38)).heap.size = w.heap.size + 2 := by simp
 have s0 := cell_of_row _ _ 0 _ _ _ hrS
 have s1 := cell_of_row _ _ 1 _ _ _ hrS
 have s2 := cell_of_row _ _ 2 _ _ _ hrS
 have s3 := cell_of_row _ _ 3 _ _ _ hrS
 have hmb : ∀ (W : World), (Instr.makeSlice 80 (.int .i64 3) (.int .i64 3)).run Try.prog W = .ok (.slice (some ⟨W.heap.size, 0, none⟩) 3 3) (W.alloc (.cells #[.bool false, .bool false, .bool false] 4)) := fun (W : World) => by
  have h := run_make_row' (P := Try.prog) 80 4 (.bool false) 1 Try.underlying80 ofBoolInfo rfl .i64 .i64 3 (by omega) (by omega) W
  rw [show madeCells #[(.bool false : Value)] 3 = #[.bool false, .bool false, .bool false] from by kernel_rfl] at h
  exact h
 simp only [List.getElem?_toArray, List.getElem?_cons_succ, List.getElem?_cons_zero] at s0 s1 s2 s3
 go_enter Try.func35, Try.ntmps35
 go_upto_region 1 with fail
 generalize ((w.alloc (.cells #[.string sp, .slice a1 n1 c1, .slice a2 n2 c2, .string stl] 25)).alloc (.cells #[.slice none 0 0, .slice none 0 0, .slice none 0 0, .string ⟨#[]⟩, .string ⟨#[]⟩] 38)) = W2 at hb2 hrS hrG hz2 s0 s1 s2 s3 ⊢
 have HM2 := Lib.hid (HMay.out W2 hb2)
 clear HMay
 cases may with
 | false =>
   go_upto_if 28 with (first | (go_at_call 43; (with_reducible refine HM2.out.mono ?_); rintro e w3 ⟨rfl, hb3⟩))
   have hrG3 := (hb3.block (w.heap.size + 1) (by rw [hz2]; omega)).trans hrG
   have t0 := cell_of_row _ _ 0 _ _ _ hrG3
   have t1 := cell_of_row _ _ 1 _ _ _ hrG3
   have t2 := cell_of_row _ _ 2 _ _ _ hrG3
   have t3 := cell_of_row _ _ 3 _ _ _ hrG3
   have t4 := cell_of_row _ _ 4 _ _ _ hrG3
   have z0 : w3.frozen? ⟨w.heap.size + 1, 0, none⟩ = false := free_of_block hrG3
   have z1 : w3.frozen? ⟨w.heap.size + 1, 1, none⟩ = false := free_of_block hrG3
   have z2 : w3.frozen? ⟨w.heap.size + 1, 2, none⟩ = false := free_of_block hrG3
   have z3 : w3.frozen? ⟨w.heap.size + 1, 3, none⟩ = false := free_of_block hrG3
   have z4 : w3.frozen? ⟨w.heap.size + 1, 4, none⟩ = false := free_of_block hrG3
   go_wp2_with fail
   have hbZ := hb2.trans (hb3.mono hb2.size)
   exact bodyPost_ret (v := .tuple #[.agg #[.slice none 0 0, .slice none 0 0, .slice none 0 0, .string ⟨#[]⟩, .string ⟨#[]⟩], .int .i64 1, .int .i64 0, .string ⟨#[]⟩]) (results_cell_three rfl _ _ (w.heap.size + 1) 38 #[.slice none 0 0, .slice none 0 0, .slice none 0 0, .string ⟨#[]⟩, .string ⟨#[]⟩] (0, 0) rfl rfl rfl rfl
    (block_set5 hrG3 _ _ _ _ _) Try.underlying38 ofGmInfo) rfl
    ⟨none, none, none, 0, 0, 0, 0, 0, 0, fun _ => False, by rw [HRes.out]; rfl, by rw [HRes.out]; exact Firm.pure noGm_gm, fun b hb => False.elim hb, set5_below hbZ (Nat.le_succ _) _ _ _ _ _⟩
 | true =>
   obtain ⟨⟨hkd, hrl0⟩, hlitd, hlitr⟩ := HK.out rfl
   have HKD := Lib.hid hkd
   have HLD := Lib.hid hlitd
   have HLR := Lib.hid hlitr
   have hres : RES = ofG so := HRes.out
   have HRS := Lib.hid hres
   clear hkd hlitd hlitr hres HRes HK
   go_upto_block 0 with (first | (go_at_call 43; (with_reducible refine HM2.out.mono ?_); rintro e w3 ⟨rfl, hb3⟩))
   have hb4 := hb3.alloc hb3.size (.cells #[(.bool false : Value), .bool false, .bool false] 4)
   have hown : (w3.alloc (.cells #[(.bool false : Value), .bool false, .bool false] 4)).ownsRow W2.heap.size 4 1 (.slice (some ⟨w3.heap.size, 0, none⟩) 3 3) 3 [.bool false, .bool false, .bool false] := World.ownsRow_lit w3 #[.bool false, .bool false, .bool false] 3 hb3.size (by unfold maxLen; omega) rfl
   have hOI := OfI.start hb4 hown
   rw [World.setCell_alloc_past _ _ _ _ (by simp), World.setCell_alloc_at _ _ _ _ _ rfl] at hOI
   simp only [World.size_alloc, List.setIfInBounds_toArray, List.set_cons_zero] at hOI
   clear hown hmb HM2 s0 s1 s2 s3
   refine of_decls (w0 := W2) (s0 := (mk0, ⟨#[]⟩)) (M := w3.heap.size + 1) (bS := w.heap.size) (HFd.out W2 hb2) hrS hOI mk0_n HSB.out.dl HSB.out.sl HKD.out HLD.out (fun u8 u9 u10 u41 u42 u43 u44 u45 u46 u47 u48 u49 u50 u51 u52 u53 u54 u55 u56 u57 u58 u59 u60 u61 u62 u63 u64 u65 u66 u67 u68 u69 u70 u71 u72 u73 u74 u75 u76 u77 u78 u79 u80 u81 u82 u83 u84 u85 u86 u87 u88 u89 u90 u91 u92 u93 u94 u95 u96 u97 u98 u99 u100 u101 u102 u103 u104 u105 u106 u107 wx hcut => ?_)
   clear hOI hb4
   generalize hMe : w3.heap.size + 1 = M at hcut ⊢
   clear hMe hb3
   have hDe : dclTo so.decls (mk0, ⟨#[]⟩) so.decls.length = ofD so := rfl
   rw [hDe] at hcut ⊢
   have hI0 : OfI W2 wx M (ofD so).1 := hcut
   clear hDe
   have hS := HSB.out
   have hN0 := ofD_n hS
   have HT : Hid (ofS so = (if (ofD so).2.toList.isEmpty then (so.rules.getD 0 noRl).left else (ofD so).2) ∧ ofT so = tydTo so.decls (ofR so) so.decls.length ∧ ofR so = ruTo so.rules (ofD so).1 so.rules.length ∧ (ofR so).lefts.length ≤ 300) := Lib.hid ⟨rfl, rfl, rfl, by
    have := (ruTo_same so.rules (ofD so).1 so.rules.length).2.2.2.2.1
    have h2 := hS.rl
    have h3 := hN0.lf
    unfold ofR
    omega⟩
   have hl0 : (ofD so).1.lefts.length ≤ 1000 := by have := hN0.lf; omega
   clear hcut hN0 hS
   rename World => W4
   go_upto_block 4 with fail
   refine of_rules (w0 := W2) (M := M) (bS := w.heap.size) (HFr.out W2 hb2) hrS hI0 HSB.out.rl hl0 (fun u11 u12 u108 u109 u110 u111 u112 u113 u114 u115 u116 u117 u118 u119 u120 u121 u122 u123 u124 u125 u126 u127 u128 u129 u130 u131 u132 u133 u134 u135 u136 u137 u138 u139 u140 u141 u142 u143 u144 u145 u146 u147 wx hcut => ?_)
   have hI1 : OfI W2 wx M (ofR so) := by rw [HT.out.2.2.1]; exact hcut
   have hl1 : (ofR so).lefts.length ≤ 1000000 := by have := HT.out.2.2.2; omega
   clear hcut hI0 hl0
   rename World => W5
   go_upto_block 6 with fail
   refine of_types (w0 := W2) (M := M) (bS := w.heap.size) (HFd.out W2 hb2) hrS hI1 hl1 (fun u13 u14 u15 u148 u149 u150 u151 u152 u153 u154 u155 u156 u157 u158 u159 u160 u161 u162 u163 u164 u165 u166 u167 u168 u169 u170 u171 u172 u173 u174 u175 u176 u177 u178 u179 u180 u181 u182 u183 u184 u185 u186 u187 u188 u189 u190 u191 u192 u193 u194 wx hcut => ?_)
   have hI2 : OfI W2 wx M (ofT so) := by rw [HT.out.2.1]; exact hcut
   clear hcut hI1 hl1
   rename World => W6
   have hSt := HT.out.1
   clear HT
   generalize (ofD so).2 = D2 at hSt ⊢
   have hlow := hI2.low
   have hwl := hb2.trans (hlow.mono hb2.size)
   have hn0 : 0 < n2 := by rw [hn2.out]; omega
   obtain ⟨rb, ro, rx, rav, hra, hrx, _, y0, _, _⟩ := HRO.out 0 hn0
   subst hra
   have r0 : W6.cell? ⟨rb, ro, none⟩ = some (.string rx.left) := cell_up hwl (by simpa using y0)
   have cc2 := cell_of_row W6 w.heap.size 2 _ _ _ ((hlow.block w.heap.size (by omega)).trans hrS)
   simp only [List.getElem?_toArray, List.getElem?_cons_succ, List.getElem?_cons_zero] at cc2
   have hgx : so.rules.getD 0 noRl = rx := by rw [List.getD_eq_getElem?_getD, hrx]; rfl
   rw [hgx] at hSt
   clear hgx hrx y0 HRO
   go_upto_if 196 with fail
   go_cut [7] from 196 to 201 (fun x7 wx => x7 = .string (ofS so) ∧ wx = W6)
   case first =>
    generalize hbq : (D2.toList.isEmpty) = bq at hSt ⊢
    cases bq with
    | true =>
      rw [if_pos rfl] at hSt
      go_wp2_with fail
      go_meet
      case rel => exact ⟨by rw [hSt], rfl⟩
    | false =>
      rw [if_neg (by decide)] at hSt
      go_wp2_with fail
      go_meet
      case rel => exact ⟨by rw [hSt], rfl⟩
   case rest =>
    obtain ⟨rfl, rfl⟩ := hcut
    rename World => W6
    clear hSt r0 cc2 hn0 hrl0
    have hFe : ofF so = { ofT so with prods := [⟨0, [1001 + (ofT so).left (ofS so)], -1, ⟨#[]⟩, [], 0⟩] } := rfl
    have HFe := Lib.hid hFe
    have HNF := Lib.hid (ofF_n HSB.out)
    have HLs := Lib.hid (hI2.left (ofS so))
    have hlg := (ofT so).left_ge (ofS so)
    have hl2 : (ofT so).lefts.length ≤ 300 := (ofF_n HSB.out).lf
    have hle : -1 ≤ (ofT so).left (ofS so) ∧ (ofT so).left (ofS so) ≤ 300 := by rcases hlg with e | ⟨k, e, h⟩ <;> omega
    obtain ⟨hle1, hle2⟩ := hle
    have HI2 := Lib.hid hI2
    clear hI2 hlg hl2 hFe
    generalize ofS so = st at HFe HLs hle1 hle2 ⊢
    generalize (ofT so).left st = lq at HFe HLs hle1 hle2
    have hwr : wrap64 (1001 + lq) = 1001 + lq := by unfold wrap64; omega
    go_upto_block 10 with (first | (go_at_call 47; (with_reducible refine HLs.out.mono ?_); rintro e w7 ⟨rfl, hb7⟩; have hI7 := HI2.out.below hb7; obtain ⟨_, _, _, _, f2, _, ⟨pv, d2⟩, hMl⟩ := hI7.errs))
    have hI8 := hI7.first (1001 + lq)
    rw [World.setCell_alloc_past _ _ _ _ (by simp; omega), World.setCell_alloc_past _ _ _ _ hMl, ← HFe.out] at hI8
    clear HLs hle1 hle2 hwr HI2 hI7 f2 d2 hMl hb7
    refine of_alts (w0 := W2) (M := M) (bS := w.heap.size) (HFr.out W2 hb2) hrS hI8 HNF.out HSB.out.rl HSB.out.al HLR.out (fun u16 u17 u213 u214 u215 u216 u217 u218 u219 u220 u221 u222 u223 u224 u225 u226 u227 u228 u229 u230 u231 u232 u233 u234 u235 u236 u237 u238 u239 u240 u241 u242 u243 u244 u245 u246 u247 wx hcut => ?_)
    have hI9 : OfI W2 wx M (ofA so) := hcut
    clear hcut hI8 HNF
    rename World => W9
    have hlow := hI9.low
    have hbF := hb2.trans (hlow.mono hb2.size)
    have hrG3 := (hlow.block (w.heap.size + 1) (by rw [hz2]; omega)).trans hrG
    have t0 := cell_of_row _ _ 0 _ _ _ hrG3
    have t1 := cell_of_row _ _ 1 _ _ _ hrG3
    have t2 := cell_of_row _ _ 2 _ _ _ hrG3
    have t3 := cell_of_row _ _ 3 _ _ _ hrG3
    have t4 := cell_of_row _ _ 4 _ _ _ hrG3
    have z0 : W9.frozen? ⟨w.heap.size + 1, 0, none⟩ = false := free_of_block hrG3
    have z1 : W9.frozen? ⟨w.heap.size + 1, 1, none⟩ = false := free_of_block hrG3
    have z2 : W9.frozen? ⟨w.heap.size + 1, 2, none⟩ = false := free_of_block hrG3
    have z3 : W9.frozen? ⟨w.heap.size + 1, 3, none⟩ = false := free_of_block hrG3
    have z4 : W9.frozen? ⟨w.heap.size + 1, 4, none⟩ = false := free_of_block hrG3
    obtain ⟨x8, x9, x10, f1, _, x1, _, hMl⟩ := hI9.errs
    have hRS := HRS.out
    unfold ofG at hRS
    clear hlow
    by_cases he : (ofA so).e = 0
    · have he2 : ((ofA so).e == 0) = true := by simp [he]
      rw [if_neg (fun h => h he)] at hRS
      have HG0 := hI9.nons ⟨⟨#[36, 97, 99, 99, 101, 112, 116]⟩, ⟨#[]⟩⟩
      rw [World.setCell_alloc_past _ _ _ _ hMl] at HG0
      simp only [nnC] at HG0
      have hPA := ofA_n HSB.out
      have hWA := ofA_w so
      have hlf : (ofA so).lefts.length ≤ 1000 := by have := hPA.lf; omega
      have hNL := nsTo_len (ofA so) [⟨⟨#[36, 97, 99, 99, 101, 112, 116]⟩, ⟨#[]⟩⟩] (ofA so).lefts.length
      have hin : (ofA so).inner = ((ofA so).inner.toNat : Int) := (Int.toNat_of_nonneg hPA.nn.1).symm
      have hni : (ofA so).inner.toNat ≤ 1000000 := by have := hPA.nn.2; omega
      have HRS9 : Hid (RES = if ofLong so = true then (noGm, 4, 0, ⟨#[]⟩) else (⟨(ofK so).toks, ofN so, (ofK so).prods, so.pro, so.tail⟩, 0, 0, ⟨#[]⟩)) := Lib.hid hRS
      have HE : Hid (ofN so = innTo (nsTo (ofA so) [⟨⟨#[36, 97, 99, 99, 101, 112, 116]⟩, ⟨#[]⟩⟩] (ofA so).lefts.length) (ofA so).inner.toNat ∧ ofK so = (numTo (ofA so) 57346 ((ofA so).toks.length - 3)).1 ∧ ofLong so = longTo (ofK so) (decide (40 < (ofK so).toks.length) || (decide (24 < (ofN so).length) || decide (60 < (ofK so).prods.length))) (ofK so).prods.length) := Lib.hid ⟨rfl, rfl, rfl⟩
      have HT3 := Lib.hid hWA.t3
      have hgl := hPA.gv
      have htl : (ofA so).toks.length ≤ 1000000 := by have := hPA.tk; omega
      have HPL : Hid ((ofK so).prods.length ≤ 1000000) := Lib.hid (by
       rw [HE.out.2.1, numTo_prods]
       have := hPA.pd; omega)
      clear hRS HRS hPA hWA
      go_upto_block 14 with fail
      clear hI9 x8 x9 x10 f1 x1 hMl t0 t1 t2 t3 t4 z0 z1 z2 z3 z4 he2
      refine of_nons (w0 := W2) (M := M) HG0 hlf (by simp) (fun u18 u19 u20 u272 u273 u274 u275 u276 u277 u278 u279 u280 u281 u282 u283 u284 u285 u286 u287 u288 u289 u290 u291 u292 u293 u294 u295 u296 u297 u298 u299 u300 u301 u302 u303 u304 u305 u306 u307 u308 u309 u310 u311 u312 u313 u314 u315 wx hcut => ?_)
      have hG1 := hcut
      clear hcut HG0
      rename World => W10
      go_upto_block 16 with fail
      refine of_inner (w0 := W2) (M := M) hG1 hin hni (by rw [hNL]; simp; omega) (fun u21 u316 u317 u318 u319 u320 u321 u322 u323 u324 u325 u326 u327 u328 u329 u330 u331 u332 u333 u334 u335 u336 u337 u338 wx hcut => ?_)
      have hG2 : OfG W2 wx M (ofA so) (ofN so) := by rw [HE.out.1]; exact hcut
      clear hcut hG1 hNL hin hni hlf
      rename World => W11
      go_upto_block 18 with fail
      refine of_nums (w0 := W2) (M := M) hG2 HT3.out htl hgl (by omega) (fun u22 u23 u339 u340 u341 u342 u343 u344 u345 u346 u347 u348 u349 u350 u351 u352 u353 u354 u355 u356 u357 u358 u359 u360 u361 u362 u363 u364 u365 u366 u367 wx hcut => ?_)
      have hG3 : OfG W2 wx M (ofK so) (ofN so) := by rw [HE.out.2.1]; exact hcut
      clear hcut hG2 htl hgl HT3
      rename World => W12
      obtain ⟨ta, tc, na, nc, pa, pc, d0, d1, d2⟩ := hG3.lens
      have hLow : Below W2.heap.size W2 W12 := by obtain ⟨F, S, q1, q2⟩ := hG3; exact q2
      have hLo := HE.out.2.2
      generalize hLB : (decide (40 < (ofK so).toks.length) || (decide (24 < (ofN so).length) || decide (60 < (ofK so).prods.length))) = LB at hLo
      have HLB := Lib.hid hLB
      have HLO := Lib.hid hLo
      have HG3 := Lib.hid hG3
      clear hG3 hLB hLo HE
      go_upto_region 69 with fail
      go_cut [24] from 368 to 392 (fun x24 wx => x24 = .bool LB ∧ wx = W12)
      case first =>
       have hq := HLB.out
       clear HLB HLO HRS9 HG3 HPL
       generalize (ofK so).toks.length = l1 at *
       generalize (ofN so).length = l2 at *
       generalize (ofK so).prods.length = l3 at *
       by_cases g1 : 40 < l1
       · have i1 : (40 : Int) < (l1 : Int) := by omega
         go_wp2_with fail
         go_meet
         case rel => exact ⟨by rw [← hq]; simp [g1], rfl⟩
       · have i1 : ¬ (40 : Int) < (l1 : Int) := by omega
         by_cases g2 : 24 < l2
         · have i2 : (24 : Int) < (l2 : Int) := by omega
           go_wp2_with fail
           go_meet
           case rel => exact ⟨by rw [← hq]; simp [g1, g2], rfl⟩
         · have i2 : ¬ (24 : Int) < (l2 : Int) := by omega
           by_cases g3 : 60 < l3
           · have i3 : (60 : Int) < (l3 : Int) := by omega
             go_wp2_with fail
             go_meet
             case rel => exact ⟨by rw [← hq]; simp [g1, g2, g3], rfl⟩
           · have i3 : ¬ (60 : Int) < (l3 : Int) := by omega
             go_wp2_with fail
             go_meet
             case rel => exact ⟨by rw [← hq]; simp [g1, g2, g3], rfl⟩
      case rest =>
       obtain ⟨rfl, rfl⟩ := hcut
       rename World => W12
       go_upto_block 20 with fail
       clear d0 d1 d2
       refine of_long (w0 := W2) (M := M) HG3.out HPL.out (fun u25 u393 u394 u395 u396 u397 u398 u399 u400 u401 u402 u403 u404 u405 u406 u407 u408 u409 u410 u411 u412 u413 u414 u415 u416 => ?_)
       rw [← HLO.out]
       have hrG3 := (hLow.block (w.heap.size + 1) (by rw [hz2]; omega)).trans hrG
       have t0 := cell_of_row _ _ 0 _ _ _ hrG3
       have t1 := cell_of_row _ _ 1 _ _ _ hrG3
       have t2 := cell_of_row _ _ 2 _ _ _ hrG3
       have t3 := cell_of_row _ _ 3 _ _ _ hrG3
       have t4 := cell_of_row _ _ 4 _ _ _ hrG3
       have z0 : W12.frozen? ⟨w.heap.size + 1, 0, none⟩ = false := free_of_block hrG3
       have z1 : W12.frozen? ⟨w.heap.size + 1, 1, none⟩ = false := free_of_block hrG3
       have z2 : W12.frozen? ⟨w.heap.size + 1, 2, none⟩ = false := free_of_block hrG3
       have z3 : W12.frozen? ⟨w.heap.size + 1, 3, none⟩ = false := free_of_block hrG3
       have z4 : W12.frozen? ⟨w.heap.size + 1, 4, none⟩ = false := free_of_block hrG3
       have hbF := hb2.trans (hLow.mono hb2.size)
       clear HLO HLB HPL
       generalize ofLong so = lo at HRS9 ⊢
       cases lo with
       | true =>
         have HR9 : Hid (RES = (noGm, 4, 0, ⟨#[]⟩)) := HRS9
         clear HRS9
         go_wp2_with fail
         exact bodyPost_ret (v := .tuple #[.agg #[.slice none 0 0, .slice none 0 0, .slice none 0 0, .string ⟨#[]⟩, .string ⟨#[]⟩], .int .i64 4, .int .i64 0, .string ⟨#[]⟩]) (results_cell_three rfl _ _ (w.heap.size + 1) 38 #[.slice none 0 0, .slice none 0 0, .slice none 0 0, .string ⟨#[]⟩, .string ⟨#[]⟩] (0, 0) rfl rfl rfl rfl
          (block_set5 hrG3 _ _ _ _ _) Try.underlying38 ofGmInfo) rfl
          ⟨none, none, none, 0, 0, 0, 0, 0, 0, fun _ => False, by rw [HR9.out]; rfl, by rw [HR9.out]; exact Firm.pure noGm_gm, fun b hb => False.elim hb, set5_below hbF (Nat.le_succ _) _ _ _ _ _⟩
       | false =>
         have HR9 : Hid (RES = (⟨(ofK so).toks, ofN so, (ofK so).prods, so.pro, so.tail⟩, 0, 0, ⟨#[]⟩)) := HRS9
         clear HRS9
         clear t0 t1 t2 t3 t4 z0 z1 z2 z3 z4 hrG3
         have hrS3 := (hLow.block w.heap.size (by rw [hz2]; omega)).trans hrS
         have s0 := cell_of_row W12 _ 0 _ _ _ hrS3
         have s3 := cell_of_row W12 _ 3 _ _ _ hrS3
         simp only [List.getElem?_toArray, List.getElem?_cons_succ, List.getElem?_cons_zero] at s0 s3
         obtain ⟨tv, nv, pv, gv, yv, lv, _, _, _, _, k5⟩ := HG3.out.read
         have k3 := k5 3
         have k4 := k5 4
         simp only [gCells, List.getElem?_cons_succ, List.getElem?_cons_zero] at k3 k4
         obtain ⟨⟨f3, f4⟩, Z1, Z2⟩ := HG3.out.last sp stl
         have HZ1 := Lib.hid Z1
         have HZ2 := Lib.hid Z2
         have hMw : M ≠ w.heap.size := by
          obtain ⟨_, _, _, _, _, _, _, _, _, _, _, _, q, _⟩ := Z1
          rw [hz2] at q
          omega
         clear k5 Z1 Z2 HG3
         go_upto_region 76 with fail
         go_cut [] from 419 to 430 (fun wx => Hid (OfZ W2 wx M ⟨(ofK so).toks, ofN so, (ofK so).prods, sp, stl⟩))
         case first =>
          clear HSP HST HR9
          go_region
          all_goals
           go_wp2_with fail
           go_meet
           case rel => first | exact Lib.hid HZ1.out | exact Lib.hid HZ2.out | exact Lib.hid HZ1.out.drew | exact Lib.hid HZ2.out.drew
         case rest =>
          rename World => W13
          obtain ⟨gt, gn, gp, n1', c1', n2', c2', n3', c3', grest, S, hMb, hMs, hFz, hSz, hLz⟩ := hcut.out
          clear hcut HZ1 HZ2 s0 s3 k3 k4 f3 f4 hrS3 hbF
          have hbF := hb2.trans (hLz.mono hb2.size)
          have hrG3 := (hLz.block (w.heap.size + 1) (by rw [hz2]; omega)).trans hrG
          have t0 := cell_of_row _ _ 0 _ _ _ hrG3
          have t1 := cell_of_row _ _ 1 _ _ _ hrG3
          have t2 := cell_of_row _ _ 2 _ _ _ hrG3
          have t3 := cell_of_row _ _ 3 _ _ _ hrG3
          have t4 := cell_of_row _ _ 4 _ _ _ hrG3
          have z0 : W13.frozen? ⟨w.heap.size + 1, 0, none⟩ = false := free_of_block hrG3
          have z1 : W13.frozen? ⟨w.heap.size + 1, 1, none⟩ = false := free_of_block hrG3
          have z2 : W13.frozen? ⟨w.heap.size + 1, 2, none⟩ = false := free_of_block hrG3
          have z3 : W13.frozen? ⟨w.heap.size + 1, 3, none⟩ = false := free_of_block hrG3
          have z4 : W13.frozen? ⟨w.heap.size + 1, 4, none⟩ = false := free_of_block hrG3
          have d0 := cell_of_row W13 M 0 _ _ _ hMb
          have d1 := cell_of_row W13 M 1 _ _ _ hMb
          have d2 := cell_of_row W13 M 2 _ _ _ hMb
          have d3 := cell_of_row W13 M 3 _ _ _ hMb
          have d4 := cell_of_row W13 M 4 _ _ _ hMb
          simp only [List.getElem?_toArray, List.getElem?_cons_succ, List.getElem?_cons_zero] at d0 d1 d2 d3 d4
          clear hMb
          go_wp2_with fail
          have hfar : ∀ b, S b → (((((W13.setCell ⟨w.heap.size + 1, 0, none⟩ (.slice gt n1' c1')).setCell ⟨w.heap.size + 1, 1, none⟩ (.slice gn n2' c2')).setCell ⟨w.heap.size + 1, 2, none⟩ (.slice gp n3' c3')).setCell ⟨w.heap.size + 1, 3, none⟩ (.string sp)).setCell ⟨w.heap.size + 1, 4, none⟩ (.string stl)).heap[b]? = W13.heap[b]? := fun b hb =>
           have hne : b ≠ w.heap.size + 1 := by have := hSz b hb; omega
           set5_far hne _ _ _ _ _
          exact bodyPost_ret (v := .tuple #[.agg #[.slice gt n1' c1', .slice gn n2' c2', .slice gp n3' c3', .string sp, .string stl], .int .i64 0, .int .i64 0, .string ⟨#[]⟩]) (results_cell_three rfl _ _ (w.heap.size + 1) 38 #[.slice gt n1' c1', .slice gn n2' c2', .slice gp n3' c3', .string sp, .string stl] (0, 0) rfl rfl rfl rfl
           (block_set5 hrG3 _ _ _ _ _) Try.underlying38 ofGmInfo) rfl
           ⟨gt, gn, gp, n1', c1', n2', c2', n3', c3', S, by rw [HR9.out]; simp only [HSP.out, HST.out], by
            rw [HR9.out]
            simp only [HSP.out, HST.out]
            exact Firm.imp (hFz.keep hfar) (fun X hX => ⟨_, _, _, rfl, hX.1, hX.2.1, hX.2.2⟩), fun b hb => by have := hSz b hb; omega, set5_below hbF (Nat.le_succ _) _ _ _ _ _⟩
    · have he2 : ((ofA so).e == 0) = false := by simpa using he
      rw [if_pos he] at hRS
      have HR9 := Lib.hid hRS
      clear hRS hI9 HRS
      go_upto_region 48 with fail
      go_region
      go_wp2_with fail
      exact bodyPost_ret (v := .tuple #[.agg #[.slice none 0 0, .slice none 0 0, .slice none 0 0, .string ⟨#[]⟩, .string ⟨#[]⟩], .int .i64 (ofA so).e, .int .i64 (ofA so).pos, .string (ofA so).name]) (results_cell_three rfl _ _ (w.heap.size + 1) 38 #[.slice none 0 0, .slice none 0 0, .slice none 0 0, .string ⟨#[]⟩, .string ⟨#[]⟩] (0, 0) rfl rfl rfl rfl
       (block_set5 hrG3 _ _ _ _ _) Try.underlying38 ofGmInfo) rfl
       ⟨none, none, none, 0, 0, 0, 0, 0, 0, fun _ => False, by rw [HR9.out]; rfl, by rw [HR9.out]; exact Firm.pure noGm_gm, fun b hb => False.elim hb, (set5_below hbF (Nat.le_succ _) _ _ _ _ _).drew⟩
end Go.Proofs.Ytkgbifbbpmdpgaa
