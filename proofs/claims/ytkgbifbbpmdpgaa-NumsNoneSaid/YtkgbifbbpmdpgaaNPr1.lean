/- Levels, on both sides. -/
import Derived.Test.YtkgbifbbpmdpgaaNBox
import Derived.Test.YtkgbifbbpmdpgaaNOf22
import Derived.BigQuiet
import Derived.Deep.RegionWith
set_option linter.unusedVariables false
set_option linter.unusedSimpArgs false
namespace Go.Proofs.Ytkgbifbbpmdpgaa
section
open Go.RowKit
theorem ofDrewN {n : Nat} {a b : World} (h : Below n a b) (k : Nat) : Below n a (b.drewN k) := ⟨h.os, h.tape, h.output, h.size, h.block⟩
structure GmW (g : Gm) : Prop where
 t3 : 3 ≤ g.toks.length
 tk : g.toks.length ≤ 40
 nn : 1 ≤ g.nons.length ∧ g.nons.length ≤ 24
 pd : g.prods.length ≤ 60
 pr : ∀ p ∈ g.prods, p.right.length ≤ 8 ∧ PdW g.toks.length ((g.nons.length : Int) - 1) p
theorem longTo_right {m : Mk} {b : Bool} : ∀ n, longTo m b n = false → b = false ∧ ∀ i, i < n → (m.prods.getD i noPd).right.length ≤ 8
 | 0, h => ⟨h, fun i hi => absurd hi (Nat.not_lt_zero _)⟩
 | n + 1, h => by
   have h2 : (longTo m b n || decide (8 < ((m.prods.getD n noPd).right.length : Int))) = false := h
   rw [Bool.or_eq_false_iff] at h2
   obtain ⟨a1, a2⟩ := longTo_right n h2.1
   refine ⟨a1, fun i hi => ?_⟩
   by_cases hl : i < n
   · exact a2 i hl
   · obtain rfl : i = n := by omega
     have := of_decide_eq_false h2.2
     omega
theorem ofAll_w {so : So} (h : (ofAll so).2.1 = 0) : GmW (ofAll so).1 := by
 unfold ofAll at h ⊢
 split at h
 · rename_i hm
   rw [if_pos hm]
   unfold ofG at h ⊢
   by_cases he : (ofA so).e ≠ 0
   · rw [if_pos he] at h; exact absurd h he
   · rw [if_neg he] at h ⊢
     by_cases hl : ofLong so = true
     · rw [if_pos hl] at h; exact absurd h (by show ¬ (4 : Int) = 0; omega)
     · rw [if_neg hl]
       have hl2 : ofLong so = false := by simpa using hl
       unfold ofLong at hl2
       obtain ⟨hb, hr⟩ := longTo_right _ hl2
       simp only [Bool.or_eq_false_iff, decide_eq_false_iff_not] at hb
       obtain ⟨b1, b2, b3⟩ := hb
       have hw := ofA_w so
       have hk : (ofK so).prods = (ofA so).prods := numTo_prods _ _ _
       have ht : (ofK so).toks.length = (ofA so).toks.length := (numTo_len (ofA so) 57346 ((ofA so).toks.length - 3)).1
       have hn : (ofN so).length = 1 + (ofA so).lefts.length + (ofA so).inner.toNat := by
        unfold ofN
        rw [innTo_len, nsTo_len]
        rfl
       have h3 := hw.t3
       have h0 := hw.nn
       refine ⟨by show 3 ≤ (ofK so).toks.length; omega, by show (ofK so).toks.length ≤ 40; omega, ⟨by show 1 ≤ (ofN so).length; omega, by show (ofN so).length ≤ 24; omega⟩, by show (ofK so).prods.length ≤ 60; omega, fun p hp => ?_⟩
       have hp2 : p ∈ (ofK so).prods := hp
       obtain ⟨i, hi⟩ := List.getElem?_of_mem hp2
       have hlt := (List.getElem?_eq_some_iff.1 hi).1
       have hg : (ofK so).prods.getD i noPd = p := by rw [List.getD_eq_getElem?_getD, hi]; rfl
       have h8 := hr i hlt
       rw [hg] at h8
       refine ⟨h8, ?_⟩
       rw [hk] at hp2
       have := hw.pr p hp2
       show PdW (ofK so).toks.length (((ofN so).length : Int) - 1) p
       rw [ht]
       exact this.wide (Nat.le_refl _) (by omega)
 · exact absurd h (by show ¬ (1 : Int) = 0; omega)
theorem PdsV.open {w : World} {v : Value} {l : List Pd} (h : PdsV w v l) : ∃ a n c, v = .slice a n c ∧ Hid (n = l.length) ∧ n ≤ c ∧ c ≤ 9223372036854775807 ∧
  Hid (∀ i, i < n → ∃ b o rv av, a = some ⟨b, o, none⟩ ∧ IntsV w rv (l.getD i noPd).right ∧ IntsV w av (l.getD i noPd).args ∧ w.cell? ⟨b, o + i * 6, none⟩ = some (.int .i64 (l.getD i noPd).left) ∧ w.cell? ⟨b, o + i * 6 + 1, none⟩ = some rv ∧
   w.cell? ⟨b, o + i * 6 + 2, none⟩ = some (.int .i64 (l.getD i noPd).prec) ∧ w.cell? ⟨b, o + i * 6 + 3, none⟩ = some (.string (l.getD i noPd).code) ∧ w.cell? ⟨b, o + i * 6 + 4, none⟩ = some av ∧ w.cell? ⟨b, o + i * 6 + 5, none⟩ = some (.int .i64 (l.getD i noPd).pos)) := by
 obtain ⟨a, n, c, h1, h2, h3, h4, h5⟩ := ListV.open h
 refine ⟨a, n, c, h1, h2, h3, h4, Lib.hid (fun i hi => ?_)⟩
 obtain ⟨b, o, cs, x, e1, e2, e3, ⟨rv, av, e4, q1, q2⟩, e5⟩ := h5.out i hi
 subst e4
 have ex : l.getD i noPd = x := by rw [List.getD_eq_getElem?_getD, e2]; rfl
 rw [ex]
 exact ⟨b, o, rv, av, e1, q1, q2, e5 0 (by omega), e5 1 (by omega), e5 2 (by omega), e5 3 (by omega), e5 4 (by omega), e5 5 (by omega)⟩
structure GmO (w : World) (t n p : Option Addr) (n1 c1 n2 c2 n3 c3 : Nat) (pr tl : ByteArray) (g : Gm) : Prop where
 e1 : pr = g.pro
 e2 : tl = g.tail
 tk : TksV w (.slice t n1 c1) g.toks
 nn : NnsV w (.slice n n2 c2) g.nons
 pd : PdsV w (.slice p n3 c3) g.prods
theorem GmO.of {w : World} {t n p : Option Addr} {n1 c1 n2 c2 n3 c3 : Nat} {pr tl : ByteArray} {g : Gm} (h : GmV w (.agg #[.slice t n1 c1, .slice n n2 c2, .slice p n3 c3, .string pr, .string tl]) g) : GmO w t n p n1 c1 n2 c2 n3 c3 pr tl g := by
 obtain ⟨tv, nv, pv, e, h1, h2, h3⟩ := h
 simp only [Value.agg.injEq, Array.mk.injEq, List.cons.injEq, and_true, Value.string.injEq] at e
 obtain ⟨rfl, rfl, rfl, e4, e5⟩ := e
 exact ⟨e4, e5, h1, h2, h3⟩
theorem GmO.below {w w' : World} {t n p : Option Addr} {n1 c1 n2 c2 n3 c3 : Nat} {pr tl : ByteArray} {g : Gm} (h : GmO w t n p n1 c1 n2 c2 n3 c3 pr tl g) (hb : Below w.heap.size w w') : GmO w' t n p n1 c1 n2 c2 n3 c3 pr tl g :=
 ⟨h.e1, h.e2, h.tk.below hb, h.nn.below hb, ListV.below h.pd (fun cs x hx => by obtain ⟨rv, av, q1, q2, q3⟩ := hx; exact ⟨rv, av, q1, q2.below hb, q3.below hb⟩) hb⟩
section
variable {w : World} {t n p : Option Addr} {n1 c1 n2 c2 n3 c3 : Nat} {pr tl : ByteArray} {g : Gm}
end
end
section
open Go.RowKit
def gmOf (so : So) : Gm := (ofAll so).1
def okOf (so : So) : Bool := (ofAll so).2.1 == 0
theorem okOf_w {so : So} (h : okOf so = true) : GmW (gmOf so) := ofAll_w (by simpa [okOf] using h)
def GrGo (so : So) (w : World) (E : Ending) (w' : World) : Prop := ∃ (t n p : Option Addr) (n1 c1 n2 c2 n3 c3 : Nat) (S : Nat → Prop),
 E = .returned (.tuple #[.agg #[.slice t n1 c1, .slice n n2 c2, .slice p n3 c3, .string (gmOf so).pro, .string (gmOf so).tail], .bool (okOf so)]) ∧
 Firm S w' (fun X => GmO X t n p n1 c1 n2 c2 n3 c3 (gmOf so).pro (gmOf so).tail (gmOf so)) ∧ (∀ b, S b → w.heap.size ≤ b) ∧ Below w.heap.size w w'
theorem results_cell_one {fn : Func} {p q : Tmp} {ty : TypeId} {P : Program} (h : fn.results = #[.cell p ty, .tmp q]) (tmps : Array Value) (w : World) (g : Nat) (t : TypeId) (cs : Array Value) (fr : Nat × Nat) {fs : Array Field}
  (hp : tmps.getD p undef = .pointer (some ⟨g, 0, none⟩)) {u : Value} (hv : tmps.getD q undef = u) (hg : w.heap[g]? = some (.cells cs t fr))
  (hu : P.underlying ty = some (.struct fs)) (hi : (P.info? ty).map (·.size) = some cs.size) :
  (results fn tmps).run P w = .ok (.tuple #[.agg cs, u]) w := by
 have hp' : tmps[p]?.getD undef = .pointer (some ⟨g, 0, none⟩) := by simpa using hp
 subst hv
 simp [results, h, hp', asAddr, run_loadVar_row w g t ty cs fr _ hg hu rfl hi]
set_option maxRecDepth 100000 in
set_option maxHeartbeats 4000000 in
theorem grammar_any {w : World} {so : So} {a1 a2 : Option Addr} {n1 c1 n2 c2 : Nat} (h : SoV w (.agg #[.string so.pro, .slice a1 n1 c1, .slice a2 n2 c2, .string so.tail]) so) (hs : SoSmall so) (hB : SoB so) :
  Calls Try.prog 13 #[.agg #[.string so.pro, .slice a1 n1 c1, .slice a2 n2 c2, .string so.tail]] w (GrGo so w) := by
 have HOf := Lib.hid (fun (V : World) (hV : Below w.heap.size w V) => of_any _ so V (h.below hV) hs hB)
 unfold GmGo at HOf
 have hb2 : Below w.heap.size w ((w.alloc (.cells #[.string so.pro, .slice a1 n1 c1, .slice a2 n2 c2, .string so.tail] 25)).alloc (.cells #[.slice none 0 0, .slice none 0 0, .slice none 0 0, .string ⟨#[]⟩, .string ⟨#[]⟩] 38)) := ((Below.refl w.heap.size w).alloc (Nat.le_refl _) _).alloc (by simp) _
 have hrS : ((w.alloc (.cells #[.string so.pro, .slice a1 n1 c1, .slice a2 n2 c2, .string so.tail] 25)).alloc (.cells #[.slice none 0 0, .slice none 0 0, .slice none 0 0, .string ⟨#[]⟩, .string ⟨#[]⟩] 38)).heap[w.heap.size]? = some (.cells #[.string so.pro, .slice a1 n1 c1, .slice a2 n2 c2, .string so.tail] 25 (0, 0)) := ofKeep _ _ (ofMade w _ _ _ rfl)
 have hrG : ((w.alloc (.cells #[.string so.pro, .slice a1 n1 c1, .slice a2 n2 c2, .string so.tail] 25)).alloc (.cells #[.slice none 0 0, .slice none 0 0, .slice none 0 0, .string ⟨#[]⟩, .string ⟨#[]⟩] 38)).heap[w.heap.size + 1]? = some (.cells #[.slice none 0 0, .slice none 0 0, .slice none 0 0, .string ⟨#[]⟩, .string ⟨#[]⟩] 38 (0, 0)) := ofMade _ _ _ _ (by simp)
 have hz2 : ((w.alloc (.cells #[.string so.pro, .slice a1 n1 c1, .slice a2 n2 c2, .string so.tail] 25)).alloc (.cells #[.slice none 0 0, .slice none 0 0, .slice none 0 0, .string ⟨#[]⟩, .string ⟨#[]⟩] 38)).heap.size = w.heap.size + 2 := by simp
 have s0 := cell_of_row _ _ 0 _ _ _ hrS
 have s1 := cell_of_row _ _ 1 _ _ _ hrS
 have s2 := cell_of_row _ _ 2 _ _ _ hrS
 have s3 := cell_of_row _ _ 3 _ _ _ hrS
 simp only [List.getElem?_toArray, List.getElem?_cons_succ, List.getElem?_cons_zero] at s0 s1 s2 s3
 have hok : okOf so = ((ofAll so).2.1 == 0) := rfl
 have hgm : gmOf so = (ofAll so).1 := rfl
 unfold GrGo
 rw [hok, hgm]
 generalize ofAll so = R at HOf ⊢
 obtain ⟨G, E0, P0, N0⟩ := R
 simp only at HOf ⊢
 clear hok hgm h hs hB
 go_enter Try.func13, Try.ntmps13
 go_upto_region 1 with fail
 generalize ((w.alloc (.cells #[.string so.pro, .slice a1 n1 c1, .slice a2 n2 c2, .string so.tail] 25)).alloc (.cells #[.slice none 0 0, .slice none 0 0, .slice none 0 0, .string ⟨#[]⟩, .string ⟨#[]⟩] 38)) = V2 at *
 have HOf2 := Lib.hid (HOf.out _ hb2)
 clear HOf
 generalize hpr : G.pro = pr at *
 generalize htl : G.tail = tl at *
 go_upto_region 2 with (first | (go_at_call 35; (with_reducible refine HOf2.out.mono ?_); rintro e w3 ⟨t, n, p, m1, d1, m2, d2, m3, d3, S, rfl, hF, hS, hb3⟩))
 have hb4 := hb2.trans (hb3.mono hb2.size)
 have hk : Below w3.heap.size w3 (w3.alloc (.cells #[.slice t m1 d1, .slice n m2 d2, .slice p m3 d3, .string pr, .string tl] 38)) := (Below.refl _ _).alloc (Nat.le_refl _) _
 have hb5 := hb4.trans (hk.mono hb4.size)
 have hrG3 := (hb3.block (w.heap.size + 1) (by rw [hz2]; omega)).trans hrG
 have hrG4 := ofKeep w3 (.cells #[.slice t m1 d1, .slice n m2 d2, .slice p m3 d3, .string pr, .string tl] 38) hrG3
 have hrN := ofMade w3 #[.slice t m1 d1, .slice n m2 d2, .slice p m3 d3, .string pr, .string tl] 38 w3.heap.size rfl
 have hsz := hb3.size
 rw [hz2] at hsz
 have k0 := cell_of_row _ _ 0 _ _ _ hrN
 have k1 := cell_of_row _ _ 1 _ _ _ hrN
 have k2 := cell_of_row _ _ 2 _ _ _ hrN
 have k3 := cell_of_row _ _ 3 _ _ _ hrN
 have k4 := cell_of_row _ _ 4 _ _ _ hrN
 simp only [List.getElem?_toArray, List.getElem?_cons_succ, List.getElem?_cons_zero] at k0 k1 k2 k3 k4
 have hF4 : Firm S (w3.alloc (.cells #[.slice t m1 d1, .slice n m2 d2, .slice p m3 d3, .string pr, .string tl] 38)) (fun X => GmV X (.agg #[.slice t m1 d1, .slice n m2 d2, .slice p m3 d3, .string pr, .string tl]) G) := hF.below hk
 clear hF hrS hrG hrG3 hrN s0 s1 s2 s3 hb2 HOf2
 generalize w3.alloc (.cells #[.slice t m1 d1, .slice n m2 d2, .slice p m3 d3, .string pr, .string tl] 38) = w4 at *
 have t0 := cell_of_row _ _ 0 _ _ _ hrG4
 have t1 := cell_of_row _ _ 1 _ _ _ hrG4
 have t2 := cell_of_row _ _ 2 _ _ _ hrG4
 have t3 := cell_of_row _ _ 3 _ _ _ hrG4
 have t4 := cell_of_row _ _ 4 _ _ _ hrG4
 simp only [List.getElem?_toArray, List.getElem?_cons_succ, List.getElem?_cons_zero] at t0 t1 t2 t3 t4
 have z0 : w4.frozen? ⟨w.heap.size + 1, 0, none⟩ = false := free_of_block hrG4
 have z1 : w4.frozen? ⟨w.heap.size + 1, 1, none⟩ = false := free_of_block hrG4
 have z2 : w4.frozen? ⟨w.heap.size + 1, 2, none⟩ = false := free_of_block hrG4
 have z3 : w4.frozen? ⟨w.heap.size + 1, 3, none⟩ = false := free_of_block hrG4
 have z4 : w4.frozen? ⟨w.heap.size + 1, 4, none⟩ = false := free_of_block hrG4
 go_wp2_with fail
 subst hpr
 subst htl
 have hfar : ∀ b, S b → (((((w4.setCell ⟨w.heap.size + 1, 0, none⟩ (.slice t m1 d1)).setCell ⟨w.heap.size + 1, 1, none⟩ (.slice n m2 d2)).setCell ⟨w.heap.size + 1, 2, none⟩ (.slice p m3 d3)).setCell ⟨w.heap.size + 1, 3, none⟩ (.string G.pro)).setCell ⟨w.heap.size + 1, 4, none⟩ (.string G.tail)).heap[b]? = w4.heap[b]? := fun b hb =>
  have hne : b ≠ w.heap.size + 1 := by have := hS b hb; rw [hz2] at this; omega
  set5_far hne _ _ _ _ _
 exact bodyPost_ret (v := .tuple #[.agg #[.slice t m1 d1, .slice n m2 d2, .slice p m3 d3, .string G.pro, .string G.tail], .bool (E0 == 0)]) (results_cell_one rfl _ _ (w.heap.size + 1) 38 #[.slice t m1 d1, .slice n m2 d2, .slice p m3 d3, .string G.pro, .string G.tail] (0, 0) rfl rfl
  (block_set5 hrG4 _ _ _ _ _) Try.underlying38 ofGmInfo) rfl
  ⟨t, n, p, m1, d1, m2, d2, m3, d3, S, rfl, Firm.imp (hF4.keep hfar) (fun X hX => GmO.of hX), fun b hb => by have := hS b hb; rw [hz2] at this; omega, set5_below hb5 (Nat.le_succ _) _ _ _ _ _⟩
end
end Go.Proofs.Ytkgbifbbpmdpgaa
