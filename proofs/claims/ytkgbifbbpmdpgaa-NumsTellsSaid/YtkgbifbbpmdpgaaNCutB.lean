/- A source, cut. -/
import Derived.Test.YtkgbifbbpmdpgaaNBox
import Derived.Test.YtkgbifbbpmdpgaaNREnd
import Derived.Test.YtkgbifbbpmdpgaaNOf18
import Derived.Deep.CutRange
import Derived.Deep.CutBlock
import Derived.Deep.AppendLies
import Derived.Deep.RegionHeld3
set_option linter.unusedVariables false
set_option linter.unusedSimpArgs false
namespace Go.Proofs.Ytkgbifbbpmdpgaa

open List renaming getElem_toArray → gA, getElem_cons_succ → gB, getElem_cons_zero → gC, setIfInBounds_toArray → gD, set_cons_zero → gE, set_cons_succ → gF
section
open Go.RowKit
theorem text_25 (s : ByteArray) (w : World) (hs : s.size ≤ maxLen) : Calls Try.prog 29 #[.string s, .int .i64 25] w fun e w' => e = .returned (.string (cutT s 25)) ∧ w = w' := text_any s 25 w hs (by omega)
end
section
open Go.RowKit
def Sm.cut (x : Sm) : Sm := ⟨cutT x.name 25, x.lit, x.num, x.pos⟩
theorem symInfo : (Try.prog.info? 68).map (·.size) = some 4 := by kernel_rfl
set_option maxRecDepth 100000 in
set_option maxHeartbeats 8000000 in
theorem symCut_any (x : Sm) (w : World) (hs : x.name.size ≤ maxLen) : Calls Try.prog 30 #[x.agg] w fun e w' => e = .returned x.cut.agg ∧ Below w.heap.size w w' := by
 obtain ⟨n, l, m, p⟩ := x
 unfold Sm.cut Sm.agg
 simp only at hs ⊢
 have HC : ∀ W, Calls Try.prog 29 #[.string n, .int .i64 25] W fun e w' => e = .returned (.string (cutT n 25)) ∧ W = w' := fun W => text_25 n W hs
 generalize cutT n 25 = nm at HC ⊢
 clear hs
 go_enter Try.func30, Try.ntmps30
 go_upto_region 1 with fail
 have hb1 := (Below.refl w.heap.size w).alloc (Nat.le_refl _) (.cells #[.string n, .bool l, .int .i64 m, .int .i64 p] 68)
 have hb2 := hb1.alloc hb1.size (.cells #[.string ⟨#[]⟩, .bool false, .int .i64 0, .int .i64 0] 68)
 have hs1 : (w.alloc (.cells #[.string n, .bool l, .int .i64 m, .int .i64 p] 68)).heap.size = w.heap.size + 1 := World.size_alloc _ _
 have x0 : ((w.alloc (.cells #[.string n, .bool l, .int .i64 m, .int .i64 p] 68)).alloc (.cells #[.string ⟨#[]⟩, .bool false, .int .i64 0, .int .i64 0] 68)).cell? ⟨w.heap.size, 0, none⟩ = some (.string n) := cell_alloc (show (w.alloc (.cells #[.string n, .bool l, .int .i64 m, .int .i64 p] 68)).cell? ⟨w.heap.size, 0, none⟩ = some _ from cell_top w _ _ _ 0 rfl) _
 have x1 : ((w.alloc (.cells #[.string n, .bool l, .int .i64 m, .int .i64 p] 68)).alloc (.cells #[.string ⟨#[]⟩, .bool false, .int .i64 0, .int .i64 0] 68)).cell? ⟨w.heap.size, 1, none⟩ = some (.bool l) := cell_alloc (show (w.alloc (.cells #[.string n, .bool l, .int .i64 m, .int .i64 p] 68)).cell? ⟨w.heap.size, 1, none⟩ = some _ from cell_top w _ _ _ 1 rfl) _
 have x2 : ((w.alloc (.cells #[.string n, .bool l, .int .i64 m, .int .i64 p] 68)).alloc (.cells #[.string ⟨#[]⟩, .bool false, .int .i64 0, .int .i64 0] 68)).cell? ⟨w.heap.size, 2, none⟩ = some (.int .i64 m) := cell_alloc (show (w.alloc (.cells #[.string n, .bool l, .int .i64 m, .int .i64 p] 68)).cell? ⟨w.heap.size, 2, none⟩ = some _ from cell_top w _ _ _ 2 rfl) _
 have x3 : ((w.alloc (.cells #[.string n, .bool l, .int .i64 m, .int .i64 p] 68)).alloc (.cells #[.string ⟨#[]⟩, .bool false, .int .i64 0, .int .i64 0] 68)).cell? ⟨w.heap.size, 3, none⟩ = some (.int .i64 p) := cell_alloc (show (w.alloc (.cells #[.string n, .bool l, .int .i64 m, .int .i64 p] 68)).cell? ⟨w.heap.size, 3, none⟩ = some _ from cell_top w _ _ _ 3 rfl) _
 go_region_held3 (fun W => W.cell? ⟨w.heap.size, 0, none⟩ = some (.string n) ∧ W.cell? ⟨w.heap.size, 1, none⟩ = some (.bool l) ∧ W.cell? ⟨w.heap.size, 2, none⟩ = some (.int .i64 m) ∧ W.cell? ⟨w.heap.size, 3, none⟩ = some (.int .i64 p))
  (first | go_keep | exact ⟨x0, x1, x2, x3⟩)
  (first | (go_at_call 29; refine (HC _).mono ?_; rintro e w9 ⟨rfl, rfl⟩))
 all_goals
  go_wp2_with fail
  have hh : (((w.alloc (.cells #[.string n, .bool l, .int .i64 m, .int .i64 p] 68)).alloc (.cells #[.string nm, .bool l, .int .i64 m, .int .i64 p] 68)).drew).heap[w.heap.size + 1]? = some (.cells #[.string nm, .bool l, .int .i64 m, .int .i64 p] 68 (0, 0)) := heap_alloc2_new w _ _
  exact bodyPost_ret (v := .agg #[.string nm, .bool l, .int .i64 m, .int .i64 p]) (results_cell_row rfl _ _ (w.heap.size + 1) 68 #[.string nm, .bool l, .int .i64 m, .int .i64 p] (0, 0) _ rfl hh Try.underlying68 rfl symInfo) rfl ⟨rfl, (hb1.alloc hb1.size _).drew⟩
end
section
open Go.RowKit
def Pt.cut (p : Pt) : Pt := ⟨p.sym.cut, cutT p.code 60, p.pos⟩
def Al.cut (a : Al) : Al := ⟨(a.parts.take 6).map Pt.cut, a.prec.cut, a.pos⟩
def Rl.cut (r : Rl) : Rl := ⟨cutT r.left 25, (r.alts.take 5).map Al.cut, r.pos⟩
def Dc.cut (d : Dc) : Dc := ⟨d.kind, cutT d.tag 25, (d.syms.take 6).map Sm.cut, d.pos⟩
def So.cut (s : So) : So := ⟨cutT s.pro 40, (s.decls.take 8).map Dc.cut, (s.rules.take 6).map Rl.cut, cutT s.tail 40⟩
theorem cutT_small (t : ByteArray) (m : Nat) (h : m ≤ 1000000) : (cutT t m).size ≤ 1000000 := Nat.le_trans (cutT_size t m) h
theorem Sm.cut_small (x : Sm) : SmSmall x.cut := cutT_small _ _ (by omega)
theorem Al.cut_small (a : Al) : AlSmall a.cut ∧ a.cut.parts.length ≤ 100 := by
 refine ⟨⟨fun p hp => ?_, Sm.cut_small _⟩, ?_⟩
 · obtain ⟨q, _, rfl⟩ := List.mem_map.1 hp
   exact ⟨Sm.cut_small _, cutT_small _ _ (by omega)⟩
 · show ((a.parts.take 6).map Pt.cut).length ≤ 100
   rw [List.length_map, List.length_take]; omega
theorem Rl.cut_small (r : Rl) : RlSmall r.cut ∧ r.cut.alts.length ≤ 20 ∧ ∀ a ∈ r.cut.alts, a.parts.length ≤ 100 := by
 refine ⟨⟨cutT_small _ _ (by omega), fun a ha => ?_⟩, ?_, fun a ha => ?_⟩
 · obtain ⟨b, _, rfl⟩ := List.mem_map.1 ha
   exact (Al.cut_small b).1
 · show ((r.alts.take 5).map Al.cut).length ≤ 20
   rw [List.length_map, List.length_take]; omega
 · obtain ⟨b, _, rfl⟩ := List.mem_map.1 ha
   exact (Al.cut_small b).2
theorem Dc.cut_small (d : Dc) : DcSmall d.cut ∧ d.cut.syms.length ≤ 300 := by
 refine ⟨⟨cutT_small _ _ (by omega), fun x hx => ?_⟩, ?_⟩
 · obtain ⟨y, _, rfl⟩ := List.mem_map.1 hx
   exact Sm.cut_small y
 · show ((d.syms.take 6).map Sm.cut).length ≤ 300
   rw [List.length_map, List.length_take]; omega
theorem So.cut_small (s : So) : SoSmall s.cut ∧ SoB s.cut := by
 refine ⟨⟨cutT_small _ _ (by omega), cutT_small _ _ (by omega), fun d hd => ?_, fun r hr => ?_⟩, ⟨?_, fun d hd => ?_, ?_, fun r hr => ?_⟩⟩
 · obtain ⟨e, _, rfl⟩ := List.mem_map.1 hd
   exact (Dc.cut_small e).1
 · obtain ⟨e, _, rfl⟩ := List.mem_map.1 hr
   exact (Rl.cut_small e).1
 · show ((s.decls.take 8).map Dc.cut).length ≤ 300
   rw [List.length_map, List.length_take]; omega
 · obtain ⟨e, _, rfl⟩ := List.mem_map.1 hd
   exact (Dc.cut_small e).2
 · show ((s.rules.take 6).map Rl.cut).length ≤ 300
   rw [List.length_map, List.length_take]; omega
 · obtain ⟨e, _, rfl⟩ := List.mem_map.1 hr
   exact (Rl.cut_small e).2
theorem cut_next {α β : Type} (f : α → β) {l : List α} {k m : Nat} {x : α} (hx : l[k]? = some x) : (l.take (k + 1)).map f = (l.take k).map f ++ [f x] := by
 obtain ⟨hk, rfl⟩ := List.getElem?_eq_some_iff.1 hx
 rw [List.take_succ_eq_append_getElem hk, List.map_append]; rfl
theorem cut_done {α β : Type} (f : α → β) {l : List α} {k m : Nat} (hk : k ≤ m) (hl : k ≤ l.length) (h : ¬ (k < l.length ∧ k < m)) : (l.take k).map f = (l.take m).map f := by
 by_cases hm : k < m
 · have : l.length ≤ k := Nat.le_of_not_lt (fun h' => h ⟨h', hm⟩)
   rw [List.take_of_length_le this, List.take_of_length_le (by omega)]
 · rw [show k = m by omega]
end
section
open Go.RowKit
structure CutM (w : World) (sc : Array Value) (P T : ByteArray) (dv rv : Value) (W : World) : Prop where
 below : Below w.heap.size w W
 src : W.heap[w.heap.size]? = some (.cells sc 25 (0, 0))
 res : W.heap[w.heap.size + 1]? = some (.cells #[.string ⟨#[]⟩, .slice none 0 0, .slice none 0 0, .string ⟨#[]⟩] 25 (0, 0))
 out : W.heap[w.heap.size + 2]? = some (.cells #[.string P, dv, rv, .string T] 25 (0, 0))
theorem CutM.lt {w W : World} {sc : Array Value} {P T : ByteArray} {dv rv : Value} (h : CutM w sc P T dv rv W) : w.heap.size + 2 < W.heap.size := (Array.getElem?_eq_some_iff.1 h.out).1
theorem CutM.step {w W V V' : World} {sc : Array Value} {P T : ByteArray} {dv rv dv' rv' : Value} (h : CutM w sc P T dv rv W) (hb : Below W.heap.size W V) (hB : Below (w.heap.size + 2) V V')
 (ho : V'.heap[w.heap.size + 2]? = some (.cells #[.string P, dv', rv', .string T] 25 (0, 0))) : CutM w sc P T dv' rv' V' := by
 have hl := h.lt
 have hv := hb.size
 exact ⟨(h.below.trans (hb.mono (by omega))).trans (hB.mono (by omega)), (hB.block _ (by omega)).trans ((hb.block _ (by omega)).trans h.src), (hB.block _ (by omega)).trans ((hb.block _ (by omega)).trans h.res), ho⟩
theorem Try.infoSym : (Try.prog.info? 68).map (fun i => (i.zero, i.size, i.bytes)) = some (some (.agg #[.string ByteArray.empty, .bool false, .int .i64 0, .int .i64 0]), 4, 40) := by kernel_rfl
theorem Try.infoDecl : (Try.prog.info? 64).map (fun i => (i.zero, i.size, i.bytes)) = some (some (.agg #[.int .i64 0, .string ByteArray.empty, .slice none 0 0, .int .i64 0]), 4, 56) := by kernel_rfl
theorem Try.infoPart : (Try.prog.info? 78).map (fun i => (i.zero, i.size, i.bytes)) = some (some (.agg #[.string ByteArray.empty, .bool false, .int .i64 0, .int .i64 0, .string ByteArray.empty, .int .i64 0]), 6, 64) := by kernel_rfl
theorem Try.infoAlt : (Try.prog.info? 71).map (fun i => (i.zero, i.size, i.bytes)) = some (some (.agg #[.slice none 0 0, .string ByteArray.empty, .bool false, .int .i64 0, .int .i64 0, .int .i64 0]), 6, 72) := by kernel_rfl
theorem Try.infoRule : (Try.prog.info? 74).map (fun i => (i.zero, i.size, i.bytes)) = some (some (.agg #[.string ByteArray.empty, .slice none 0 0, .int .i64 0]), 3, 48) := by kernel_rfl
theorem news_of (w : World) (l : List Value) (t : TypeId) : ∀ j u, l[j]? = some u → (w.alloc (.cells l.toArray t)).cell? ((⟨w.heap.size, 0, none⟩ : Addr).add j) = some u := by
 intro j u hj
 rw [show ((⟨w.heap.size, 0, none⟩ : Addr).add j) = ⟨w.heap.size, j, none⟩ from by simp [Addr.add]; intro h; exact h.symm]
 exact (cell_top w l.toArray t _ j rfl).trans (by rw [List.getElem?_toArray]; exact hj)
theorem slice_one {w : World} {base : Nat} {e : TypeId} {size n : Nat} {v : Value} {xs : List Value} (h : w.ownsRow base e size v n xs) : v.oneCell' = true := by
 rcases h.2 with ⟨rfl, _⟩ | ⟨g, cap, cur, rfl, _⟩ <;> rfl
theorem cutM_start (w : World) (sc : Array Value) (P T : ByteArray) : CutM w sc P T (.slice none 0 0) (.slice none 0 0) (((w.alloc (.cells sc 25)).alloc (.cells #[.string ⟨#[]⟩, .slice none 0 0, .slice none 0 0, .string ⟨#[]⟩] 25)).alloc (.cells #[.string P, .slice none 0 0, .slice none 0 0, .string T] 25)).drew := by
 have h1 := heap_new w sc 25 w.heap.size rfl
 have hs1 : (w.alloc (.cells sc 25)).heap.size = w.heap.size + 1 := World.size_alloc _ _
 have hs2 : ((w.alloc (.cells sc 25)).alloc (.cells #[.string ⟨#[]⟩, .slice none 0 0, .slice none 0 0, .string ⟨#[]⟩] 25)).heap.size = w.heap.size + 2 := by rw [World.size_alloc, hs1]
 have b1 := (Below.refl w.heap.size w).alloc (Nat.le_refl _) (.cells sc 25)
 have b2 := b1.alloc b1.size (.cells #[.string ⟨#[]⟩, .slice none 0 0, .slice none 0 0, .string ⟨#[]⟩] 25)
 have b3 := b2.alloc b2.size (.cells #[.string P, .slice none 0 0, .slice none 0 0, .string T] 25)
 exact ⟨b3.drew, heap_put _ _ (heap_put _ _ h1), heap_put _ _ (heap_new _ _ _ _ hs1.symm), heap_new _ _ _ _ hs2.symm⟩
theorem set6_below {B q : Nat} {a w : World} (h : Below B a w) (hq : B ≤ q) (v0 v1 v2 v3 v4 v5 : Value) : Below B a ((((((w.setCell ⟨q, 0, none⟩ v0).setCell ⟨q, 1, none⟩ v1).setCell ⟨q, 2, none⟩ v2).setCell ⟨q, 3, none⟩ v3).setCell ⟨q, 4, none⟩ v4).setCell ⟨q, 5, none⟩ v5) :=
 (((((h.setCell (p := ⟨q, 0, none⟩) hq v0).setCell (p := ⟨q, 1, none⟩) hq v1).setCell (p := ⟨q, 2, none⟩) hq v2).setCell (p := ⟨q, 3, none⟩) hq v3).setCell (p := ⟨q, 4, none⟩) hq v4).setCell (p := ⟨q, 5, none⟩) hq v5
theorem set6_row {w : World} {q : Nat} {a0 a1 a2 a3 a4 a5 : Value} {t : TypeId} (h : w.heap[q]? = some (.cells #[a0, a1, a2, a3, a4, a5] t (0, 0))) (v0 v1 v2 v3 v4 v5 : Value) :
 ((((((w.setCell ⟨q, 0, none⟩ v0).setCell ⟨q, 1, none⟩ v1).setCell ⟨q, 2, none⟩ v2).setCell ⟨q, 3, none⟩ v3).setCell ⟨q, 4, none⟩ v4).setCell ⟨q, 5, none⟩ v5).heap[q]? = some (.cells #[v0, v1, v2, v3, v4, v5] t (0, 0)) :=
 block_setCell (j := 5) (block_setCell (j := 4) (block_setCell (j := 3) (block_setCell (j := 2) (block_setCell (j := 1) (block_setCell (j := 0) h)))))
theorem set4_below {B q : Nat} {a w : World} (h : Below B a w) (hq : B ≤ q) (v0 v1 v2 v3 : Value) : Below B a ((((w.setCell ⟨q, 0, none⟩ v0).setCell ⟨q, 1, none⟩ v1).setCell ⟨q, 2, none⟩ v2).setCell ⟨q, 3, none⟩ v3) :=
 (((h.setCell (p := ⟨q, 0, none⟩) hq v0).setCell (p := ⟨q, 1, none⟩) hq v1).setCell (p := ⟨q, 2, none⟩) hq v2).setCell (p := ⟨q, 3, none⟩) hq v3
theorem set4_row {w : World} {q : Nat} {a0 a1 a2 a3 : Value} {t : TypeId} (h : w.heap[q]? = some (.cells #[a0, a1, a2, a3] t (0, 0))) (v0 v1 v2 v3 : Value) :
 ((((w.setCell ⟨q, 0, none⟩ v0).setCell ⟨q, 1, none⟩ v1).setCell ⟨q, 2, none⟩ v2).setCell ⟨q, 3, none⟩ v3).heap[q]? = some (.cells #[v0, v1, v2, v3] t (0, 0)) :=
 block_setCell (j := 3) (block_setCell (j := 2) (block_setCell (j := 1) (block_setCell (j := 0) h)))
theorem set4_other {w : World} {q b : Nat} (h : b ≠ q) (v0 v1 v2 v3 : Value) : ((((w.setCell ⟨q, 0, none⟩ v0).setCell ⟨q, 1, none⟩ v1).setCell ⟨q, 2, none⟩ v2).setCell ⟨q, 3, none⟩ v3).heap[b]? = w.heap[b]? :=
 (Below.heap_setCell _ _ _ _ h).trans ((Below.heap_setCell _ _ _ _ h).trans ((Below.heap_setCell _ _ _ _ h).trans (Below.heap_setCell _ _ _ _ h)))
def SoGoes (s : So) (w : World) (e : Ending) (w' : World) : Prop := ∃ (v' : Value) (T : Nat → Prop), e = .returned v' ∧ Firm T w' (fun X => SoV X v' s) ∧ (∀ b, T b → w.heap.size ≤ b) ∧ Below w.heap.size w w'
theorem soInfo : (Try.prog.info? 25).map (·.size) = some 4 := by kernel_rfl
theorem text_40 (s : ByteArray) (w : World) (hs : s.size ≤ maxLen) : Calls Try.prog 29 #[.string s, .int .i64 40] w fun e w' => e = .returned (.string (cutT s 40)) ∧ w = w' := text_any s 40 w hs (by omega)
theorem text_60 (s : ByteArray) (w : World) (hs : s.size ≤ maxLen) : Calls Try.prog 29 #[.string s, .int .i64 60] w fun e w' => e = .returned (.string (cutT s 60)) ∧ w = w' := text_any s 60 w hs (by omega)
set_option maxRecDepth 100000 in
set_option maxHeartbeats 100000000 in
theorem cut_any (v : Value) (s : So) (w : World) (h : SoV w v s) (hI : SoIn s) : Calls Try.prog 11 #[v] w (SoGoes s.cut w) := by
 obtain ⟨dv, rv, rfl, hd, hr⟩ := h
 obtain ⟨a1, n1, c1, rfl, hn1, hc1, hm1, hx1⟩ := hd.open
 obtain ⟨a2, n2, c2, rfl, hn2, hc2, hm2, hx2⟩ := hr.open
 obtain ⟨i1, i2, i3, i4⟩ := hI
 have HI2 := Lib.hid i2
 have HI3 := Lib.hid i3
 have HR : Hid (s.cut = ⟨cutT s.pro 40, (s.decls.take 8).map Dc.cut, (s.rules.take 6).map Rl.cut, cutT s.tail 40⟩) := Lib.hid rfl
 have HP : Hid (∀ W, Calls Try.prog 29 #[.string s.pro, .int .i64 40] W fun e w' => e = .returned (.string (cutT s.pro 40)) ∧ W = w') := Lib.hid (fun W => text_40 s.pro W i1)
 have HT : Hid (∀ W, Calls Try.prog 29 #[.string s.tail, .int .i64 40] W fun e w' => e = .returned (.string (cutT s.tail 40)) ∧ W = w') := Lib.hid (fun W => text_40 s.tail W i4)
 generalize s.cut = R at HR ⊢
 obtain ⟨pr, ds, rs, ta⟩ := s
 simp only at *
 generalize cutT pr 40 = cp at HR HP
 generalize cutT ta 40 = ct at HR HT
 clear hd hr i1 i2 i3 i4
 have hb1 := (Below.refl w.heap.size w).alloc (Nat.le_refl _) (.cells #[.string pr, .slice a1 n1 c1, .slice a2 n2 c2, .string ta] 25)
 have hb2 := hb1.alloc hb1.size (.cells #[.string ⟨#[]⟩, .slice none 0 0, .slice none 0 0, .string ⟨#[]⟩] 25)
 have hs1 : (w.alloc (.cells #[.string pr, .slice a1 n1 c1, .slice a2 n2 c2, .string ta] 25)).heap.size = w.heap.size + 1 := World.size_alloc _ _
 have hs2 : ((w.alloc (.cells #[.string pr, .slice a1 n1 c1, .slice a2 n2 c2, .string ta] 25)).alloc (.cells #[.string ⟨#[]⟩, .slice none 0 0, .slice none 0 0, .string ⟨#[]⟩] 25)).heap.size = w.heap.size + 2 := by rw [World.size_alloc, hs1]
 have x0 : ((w.alloc (.cells #[.string pr, .slice a1 n1 c1, .slice a2 n2 c2, .string ta] 25)).alloc (.cells #[.string ⟨#[]⟩, .slice none 0 0, .slice none 0 0, .string ⟨#[]⟩] 25)).cell? ⟨w.heap.size, 0, none⟩ = some (.string pr) := cell_alloc (show (w.alloc (.cells #[.string pr, .slice a1 n1 c1, .slice a2 n2 c2, .string ta] 25)).cell? ⟨w.heap.size, 0, none⟩ = some _ from cell_top w _ _ _ 0 rfl) _
 have x3 : ((w.alloc (.cells #[.string pr, .slice a1 n1 c1, .slice a2 n2 c2, .string ta] 25)).alloc (.cells #[.string ⟨#[]⟩, .slice none 0 0, .slice none 0 0, .string ⟨#[]⟩] 25)).cell? ⟨w.heap.size, 3, none⟩ = some (.string ta) := cell_alloc (show (w.alloc (.cells #[.string pr, .slice a1 n1 c1, .slice a2 n2 c2, .string ta] 25)).cell? ⟨w.heap.size, 3, none⟩ = some _ from cell_top w _ _ _ 3 rfl) _
 go_enter Try.func11, Try.ntmps11
 go_upto_region 1 with fail
 go_cut [3] from 13 to 19 (fun x wx => x = .pointer (some ⟨w.heap.size + 2, 0, none⟩) ∧ CutM w #[.string pr, .slice a1 n1 c1, .slice a2 n2 c2, .string ta] cp ct (.slice none 0 0) (.slice none 0 0) wx)
 case first =>
  go_region_held3 (fun W => W.cell? ⟨w.heap.size, 0, none⟩ = some (.string pr) ∧ W.cell? ⟨w.heap.size, 3, none⟩ = some (.string ta))
   (first | go_keep | exact ⟨x0, x3⟩)
   (first | (go_at_call 29; (with_reducible refine (HP.out _).mono ?_); rintro e w9 ⟨rfl, rfl⟩) | (go_at_call 29; (with_reducible refine (HT.out _).mono ?_); rintro e w9 ⟨rfl, rfl⟩))
  all_goals
   go_wp2_with fail
   go_meet
   case rel =>
    exact ⟨by simp, cutM_start w _ _ _⟩
 case rest =>
  obtain ⟨rfl, hM⟩ := hcut
  clear x0 x3 hb1 hb2 hs1 hs2 HP HT
  rename World => W0
  go_upto_block 0 with fail
  go_cut [4, 5, 6] from 20 to 86 (fun (x4 x5 x6 : Value) wx => ∃ (dv : Value) (Sd : Nat → Prop), CutM w #[.string pr, .slice a1 n1 c1, .slice a2 n2 c2, .string ta] cp ct dv (.slice none 0 0) wx ∧ Firm Sd wx (fun X => ListV 4 dcR X dv ((ds.take 8).map Dc.cut)) ∧ Hid (∀ b, Sd b → w.heap.size + 3 ≤ b))
  case first =>
   go_wp2_with fail
   go_loopw [4] (fun i W => ∃ (k : Nat) (dv : Value) (xs : List Value) (S : Nat → Prop), k ≤ n1 ∧ k ≤ 8 ∧ i = .int .i64 k ∧ CutM w #[.string pr, .slice a1 n1 c1, .slice a2 n2 c2, .string ta] cp ct dv (.slice none 0 0) W ∧ GrowL (w.heap.size + 3) 64 4 dcR S W dv xs ((ds.take k).map Dc.cut) ∧ Hid (∀ b, S b → w.heap.size + 3 ≤ b)) (fun i _ => n1 - (intOf i).toNat)
   case atStart => exact ⟨0, _, [], _, Nat.zero_le _, by omega, rfl, hM, GrowL.nil _ _ _ _ _, Lib.hid (fun _ h => h.elim)⟩
   case round =>
    clear hM HI3 hx2 HR
    obtain ⟨k, dv, xs, S, hk, hk6, rfl, hM, hG, HS⟩ := hrel
    rename World => W
    have s1 : W.cell? ⟨w.heap.size, 1, none⟩ = some (.slice a1 n1 c1) := cell_of_row _ _ 1 _ _ _ hM.src
    by_cases hgo : k < n1 ∧ k < 8
    · obtain ⟨hlt, h6⟩ := hgo
      obtain ⟨b, o, x, sx, rfl, ex, hsx, x0, x1, x2, x3⟩ := hx1.out k hlt
      obtain ⟨ax, nx, cx, rfl, hnx, hcx, hmx, hxx⟩ := hsx.open
      have hbw := hM.below
      have hb1 := World.block_lt_of_cell? _ _ x0
      replace x0 := (hbw.cell (p := ⟨b, o + k * 4, none⟩) hb1).trans x0
      replace x1 := (hbw.cell (p := ⟨b, o + k * 4 + 1, none⟩) hb1).trans x1
      replace x2 := (hbw.cell (p := ⟨b, o + k * 4 + 2, none⟩) hb1).trans x2
      replace x3 := (hbw.cell (p := ⟨b, o + k * 4 + 3, none⟩) hb1).trans x3
      have hDI := HI2.out x (List.mem_of_getElem? ex)
      have HN := Lib.hid (cut_next Dc.cut (m := 8) ex)
      have HTg : Hid (∀ W, Calls Try.prog 29 #[.string x.tag, .int .i64 25] W fun e w' => e = .returned (.string (cutT x.tag 25)) ∧ W = w') := Lib.hid (fun W => text_25 x.tag W hDI.2.1)
      have HDc : Hid (x.cut = ⟨x.kind, cutT x.tag 25, (x.syms.take 6).map Sm.cut, x.pos⟩) := Lib.hid rfl
      generalize x.cut = xc at HN HDc
      have HSI := Lib.hid hDI.2.2.1
      obtain ⟨kd, tg, sy, po⟩ := x
      simp only at x0 x1 x2 x3 HTg HDc hnx hxx HSI
      generalize cutT tg 25 = tc at HTg HDc
      have i1 : (k : Int) < (n1 : Int) := by omega
      have i6 : (k : Int) < 8 := by omega
      have hlk : ((ds.take k).map Dc.cut).length = k := by rw [List.length_map, List.length_take]; have := hn1.out; omega
      clear ex hsx hDI hx1 HI2 hc1 hm1 hc2 hm2 hcx hmx
      go_upto_region 5 with fail
      go_cut [5] from 31 to 50 (fun x wx => x = .pointer (some ⟨W.heap.size, 0, none⟩) ∧ wx = (W.alloc (.cells #[.int .i64 kd, .string tc, .slice none 0 0, .int .i64 po] 64)).drew)
      case first =>
       go_region_held3 (fun W => W.cell? ⟨w.heap.size, 1, none⟩ = some (.slice (some ⟨b, o, none⟩) n1 c1) ∧ W.cell? ⟨b, o + k * 4, none⟩ = some (.int .i64 kd) ∧ W.cell? ⟨b, o + k * 4 + 1, none⟩ = some (.string tg) ∧ W.cell? ⟨b, o + k * 4 + 3, none⟩ = some (.int .i64 po))
        (first | go_keep | exact ⟨s1, x0, x1, x3⟩)
        (first | (go_at_call 29; (with_reducible refine (HTg.out _).mono ?_); rintro e w9 ⟨rfl, rfl⟩))
       all_goals
        go_wp2_with fail
        go_meet
        case rel => exact ⟨by simp, rfl⟩
      case rest =>
       obtain ⟨rfl, rfl⟩ := hcut
       have hV0 : ((W.alloc (.cells #[.int .i64 kd, .string tc, Value.slice none 0 0, .int .i64 po] 64)).drew).heap[W.heap.size]? = some (.cells #[.int .i64 kd, .string tc, Value.slice none 0 0, .int .i64 po] 64 (0, 0)) := heap_new W _ _ _ rfl
       have hbV := ((Below.refl W.heap.size W).alloc (Nat.le_refl _) (.cells #[.int .i64 kd, .string tc, Value.slice none 0 0, .int .i64 po] 64)).drew
       have hsV : ((W.alloc (.cells #[.int .i64 kd, .string tc, Value.slice none 0 0, .int .i64 po] 64)).drew).heap.size = W.heap.size + 1 := World.size_alloc _ _
       generalize (W.alloc (.cells #[.int .i64 kd, .string tc, Value.slice none 0 0, .int .i64 po] 64)).drew = V0 at hV0 hbV hsV ⊢
       have hWs := hM.below.size
       have hbs1 := World.block_lt_of_cell? _ _ s1
       have hbx2 := World.block_lt_of_cell? _ _ x2
       go_wp2_with fail
       go_loopw [6] (fun i V => ∃ (j : Nat) (sv : Value) (ys : List Value), j ≤ nx ∧ j ≤ 6 ∧ i = .int .i64 j ∧ Below W.heap.size W V ∧ W.heap.size + 1 ≤ V.heap.size ∧ V.heap[W.heap.size]? = some (.cells #[.int .i64 kd, .string tc, sv, .int .i64 po] 64 (0, 0)) ∧ GrowL (W.heap.size + 1) 68 4 smR (fun _ => False) V sv ys ((sy.take j).map Sm.cut)) (fun i _ => nx - (intOf i).toNat)
       case atStart => exact ⟨0, _, [], Nat.zero_le _, by omega, rfl, hbV, by omega, hV0, GrowL.nil _ _ _ _ _⟩
       case round =>
        clear hV0 hbV hsV
        obtain ⟨j, sv, ys, hj, hj5, rfl, hbv, hvs, hdb, hg⟩ := hrel
        rename World => V
        have t1 := (hbv.cell hbs1).trans s1
        have t2 := (hbv.cell hbx2).trans x2
        have t0 : V.cell? ⟨W.heap.size, 2, none⟩ = some sv := cell_of_row _ _ 2 _ _ _ hdb
        by_cases hgo2 : j < nx ∧ j < 6
        · obtain ⟨hjt, hj6⟩ := hgo2
          obtain ⟨b3, o3, u, rfl, eu, u0, u1, u2, u3⟩ := hxx.out j hjt
          have hb3 := World.block_lt_of_cell? _ _ u0
          have hb3w : b3 < W.heap.size := Nat.lt_of_lt_of_le hb3 hWs
          replace u0 := (hbv.cell (p := ⟨b3, o3 + j * 4, none⟩) hb3w).trans ((hbw.cell (p := ⟨b3, o3 + j * 4, none⟩) hb3).trans u0)
          replace u1 := (hbv.cell (p := ⟨b3, o3 + j * 4 + 1, none⟩) hb3w).trans ((hbw.cell (p := ⟨b3, o3 + j * 4 + 1, none⟩) hb3).trans u1)
          replace u2 := (hbv.cell (p := ⟨b3, o3 + j * 4 + 2, none⟩) hb3w).trans ((hbw.cell (p := ⟨b3, o3 + j * 4 + 2, none⟩) hb3).trans u2)
          replace u3 := (hbv.cell (p := ⟨b3, o3 + j * 4 + 3, none⟩) hb3w).trans ((hbw.cell (p := ⟨b3, o3 + j * 4 + 3, none⟩) hb3).trans u3)
          have HNj := Lib.hid (cut_next Sm.cut (m := 6) eu)
          have HSy := Lib.hid (fun X => symCut_any u X (HSI.out u (List.mem_of_getElem? eu)).1)
          have hll : ((sy.take j).map Sm.cut).length = j := by rw [List.length_map, List.length_take]; have := hnx.out; omega
          generalize u.cut = uc at HSy HNj
          obtain ⟨un, ul, um, up⟩ := u
          obtain ⟨zn, zl, zm, zp⟩ := uc
          simp only [Sm.agg] at u0 u1 u2 u3 HSy
          have hown := hg.own
          rw [hll] at hown
          obtain ⟨i0, hi, iz0, iz1, iz2⟩ := info_parts Try.infoSym
          have j1 : (j : Int) < (nx : Int) := by omega
          have j5 : (j : Int) < 6 := by omega
          have HK := Lib.hid (fun (X : World) (hX : Below V.heap.size V X) => show (X.cell? ⟨w.heap.size, 1, none⟩ = some (.slice (some ⟨b, o, none⟩) n1 c1) ∧ X.cell? ⟨b, o + k * 4 + 2, none⟩ = some (.slice (some ⟨b3, o3, none⟩) nx cx) ∧ X.cell? ⟨b3, o3 + j * 4, none⟩ = some (.string un) ∧ X.cell? ⟨b3, o3 + j * 4 + 1, none⟩ = some (.bool ul) ∧ X.cell? ⟨b3, o3 + j * 4 + 2, none⟩ = some (.int .i64 um) ∧ X.cell? ⟨b3, o3 + j * 4 + 3, none⟩ = some (.int .i64 up)) ∧ X.cell? ⟨W.heap.size, 2, none⟩ = some sv from
           ⟨⟨(hX.cell (World.block_lt_of_cell? _ _ t1)).trans t1, (hX.cell (World.block_lt_of_cell? _ _ t2)).trans t2, (hX.cell (World.block_lt_of_cell? _ _ u0)).trans u0, (hX.cell (World.block_lt_of_cell? _ _ u1)).trans u1, (hX.cell (World.block_lt_of_cell? _ _ u2)).trans u2, (hX.cell (World.block_lt_of_cell? _ _ u3)).trans u3⟩, (hX.cell (World.block_lt_of_cell? _ _ t0)).trans t0⟩)
          clear eu hxx HSI
          go_upto_region 9 with fail
          have hne : some W.heap.size ≠ sv.ownBlock := fun h => by have := own_base hown (Nat.le_refl _) _ h.symm; omega
          have nb : W.heap.size ≠ b := Nat.ne_of_gt (Nat.lt_of_lt_of_le hb1 hWs)
          have nb3 : W.heap.size ≠ b3 := Nat.ne_of_gt hb3w
          have nw : W.heap.size ≠ w.heap.size := Nat.ne_of_gt hbs1
          have HO := Lib.hid (fun (X : World) (hX : Below V.heap.size V X) => own_below hown hX)
          have HB := Lib.hid (fun (X : World) (hX : Below V.heap.size V X) => (hX.block W.heap.size (by omega)).trans hdb)
          have hn0 : sv.ownBlock ≠ some b ∧ sv.ownBlock ≠ some b3 ∧ sv.ownBlock ≠ some w.heap.size := ⟨fun h => by have := own_base hown (Nat.le_refl _) _ h; omega, fun h => by have := own_base hown (Nat.le_refl _) _ h; omega, fun h => by have := own_base hown (Nat.le_refl _) _ h; omega⟩
          refine wp_region_held_drew (S := (fun X => (X.cell? ⟨w.heap.size, 1, none⟩ = some (.slice (some ⟨b, o, none⟩) n1 c1) ∧ X.cell? ⟨b, o + k * 4 + 2, none⟩ = some (.slice (some ⟨b3, o3, none⟩) nx cx) ∧ X.cell? ⟨b3, o3 + j * 4, none⟩ = some (.string un) ∧ X.cell? ⟨b3, o3 + j * 4 + 1, none⟩ = some (.bool ul) ∧ X.cell? ⟨b3, o3 + j * 4 + 2, none⟩ = some (.int .i64 um) ∧ X.cell? ⟨b3, o3 + j * 4 + 3, none⟩ = some (.int .i64 up)))) (by kernel_rfl) ?hS0 (fun hHeld => ?hR0)
          case hS0 => exact ⟨t1, t2, u0, u1, u2, u3⟩
          case hR0 =>
           refine tk 0 ?_
           try simp only [Act.put, gA, gB, gC, gD, gE, gF]
           refine tk 2 ?_
           try simp only [Act.put, gA, gB, gC, gD, gE, gF]
           refine tk 3 ?_
           try simp only [Act.put, gA, gB, gC, gD, gE, gF]
           refine tk 4 ?_
           try simp only [Act.put, gA, gB, gC, gD, gE, gF]
           refine tk 5 ?_
           try simp only [Act.put, gA, gB, gC, gD, gE, gF]
           refine tk 6 ?_
           try simp only [Act.put, gA, gB, gC, gD, gE, gF]
           refine tk 7 ?_
           try simp only [Act.put, gA, gB, gC, gD, gE, gF]
           refine tk 8 ?_
           try simp only [Act.put, gA, gB, gC, gD, gE, gF]
           refine tk 9 ?_
           try simp only [Act.put, gA, gB, gC, gD, gE, gF]
           refine tk 10 ?_
           try simp only [Act.put, gA, gB, gC, gD, gE, gF]
           refine wpAnyH_ready (rs := [1, 11]) (by kernel_rfl) (by simp) ?_
           refine AllReadyH.cons rfl (fun K hK => ?_) ?_
           · try simp only [gA, gB, gC]
             go_simp
             refine hK.out _ _ (by assumption) (fun hHeld => ?_)
             clear hK K
             try simp only [Act.put, gA, gB, gC, gD, gE, gF]
             refine wpAnyH_ready (rs := [11]) (by kernel_rfl) (by simp) ?_
             refine AllReadyH.cons rfl (fun K hK => ?_) .nil
             try simp only [gA, gB, gC]
             go_simp
             go_at_call 30
             (with_reducible refine (HSy.out _).mono ?_)
             rintro e w9 ⟨rfl, hb9⟩
             have h99 := (Below.refl V.heap.size V).drew.trans hb9
             have hk9 := HK.out _ h99
             have k9 := hk9.2
             have k9a := cell_alloc k9
             have h9o := HO.out _ h99
             have d9 := HB.out _ h99
             have h9s := h99.size
             go_wp2_with fail
             refine hK.out _ _ hk9.1 (fun hHeld => ?_)
             clear hK K
             try simp only [Act.put, gA, gB, gC, gD, gE, gF]
             refine wpAnyH_ready (rs := [12]) (by kernel_rfl) (by simp) ?_
             refine AllReadyH.cons rfl (fun K hK => ?_) .nil
             try simp only [gA, gB, gC]
             go_simp
             have hka : _ ∧ _ ∧ _ ∧ _ ∧ _ ∧ _ := ⟨cell_alloc hk9.1.1 (.cells #[.string zn, .bool zl, .int .i64 zm, .int .i64 zp] 68), cell_alloc hk9.1.2.1 (.cells #[.string zn, .bool zl, .int .i64 zm, .int .i64 zp] 68), cell_alloc hk9.1.2.2.1 (.cells #[.string zn, .bool zl, .int .i64 zm, .int .i64 zp] 68), cell_alloc hk9.1.2.2.2.1 (.cells #[.string zn, .bool zl, .int .i64 zm, .int .i64 zp] 68), cell_alloc hk9.1.2.2.2.2.1 (.cells #[.string zn, .bool zl, .int .i64 zm, .int .i64 zp] 68), cell_alloc hk9.1.2.2.2.2.2 (.cells #[.string zn, .bool zl, .int .i64 zm, .int .i64 zp] 68)⟩
             refine hK.out _ _ hka (fun hHeld => ?_)
             clear hK K
             try simp only [Act.put, gA, gB, gC, gD, gE, gF]
             refine wpAnyH_ready (rs := [13]) (by kernel_rfl) (by simp) ?_
             refine AllReadyH.cons rfl (fun K hK => ?_) .nil
             skip
             refine step_append_lies _ (by rfl) _ _ _ (by rfl) (W.heap.size + 1) 68 i0 (.agg #[.string ByteArray.empty, .bool false, .int .i64 0, .int .i64 0]) 4 40 Try.underlying62 hi iz0 iz1 iz2 rfl (by omega) sv j ys (by rfl) (h9o.alloc _)
              ⟨w9.heap.size, 0, none⟩ 1 1 [.string zn, .bool zl, .int .i64 zm, .int .i64 zp] (by rfl) (by rfl) (news_of w9 _ _) (by simp [Value.oneCell'])
              (by omega) (by unfold maxLen; omega) (by omega) (by simp; omega) (w9.heap.size + 1) (by simp) ?_
             intro gg cap w5 hown5 hgrow5 hat hlt5
             have f5 : w5.cell? ⟨W.heap.size, 2, none⟩ = some sv := hgrow5.cell (cell_alloc k9 _) hne
             have k5 : _ ∧ _ ∧ _ ∧ _ ∧ _ ∧ _ := ⟨hgrow5.cell hka.1 (Ne.symm hn0.2.2), hgrow5.cell hka.2.1 (Ne.symm hn0.1), hgrow5.cell hka.2.2.1 (Ne.symm hn0.2.1), hgrow5.cell hka.2.2.2.1 (Ne.symm hn0.2.1), hgrow5.cell hka.2.2.2.2.1 (Ne.symm hn0.2.1), hgrow5.cell hka.2.2.2.2.2 (Ne.symm hn0.2.1)⟩
             have r5 : w5.frozen? ⟨W.heap.size, 2, none⟩ = false := (hgrow5.frozen_far ⟨W.heap.size, 2, none⟩ (by simp; omega) hne).trans (free_of_block (heap_put _ _ d9))
             refine hK.out _ _ k5 (fun hHeld => ?_)
             clear hK K
             try simp only [Act.put, gA, gB, gC, gD, gE, gF]
             refine tk 14 ?_
             try simp only [Act.put, gA, gB, gC, gD, gE, gF]
             refine wpAnyH_ready (rs := [15]) (by kernel_rfl) (by simp) ?_
             refine AllReadyH.cons rfl (fun K hK => ?_) .nil
             try simp only [gA, gB, gC]
             go_simp
             refine hK.out _ _ ⟨(World.cell?_setCell_far _ _ _ _ nw).trans k5.1, (World.cell?_setCell_far _ _ _ _ nb).trans k5.2.1, (World.cell?_setCell_far _ _ _ _ nb3).trans k5.2.2.1, (World.cell?_setCell_far _ _ _ _ nb3).trans k5.2.2.2.1, (World.cell?_setCell_far _ _ _ _ nb3).trans k5.2.2.2.2.1, (World.cell?_setCell_far _ _ _ _ nb3).trans k5.2.2.2.2.2⟩ (fun hHeld => ?_)
             clear hK K
             try simp only [Act.put, gA, gB, gC, gD, gE, gF]
             refine wpAnyH_done (by kernel_rfl) ?_ _
             go_wp2_with fail
             have hpu := hg.box0 (j := 2) (x := ⟨zn, zl, zm, zp⟩) (h99.alloc h99.size (.cells #[.string zn, .bool zl, .int .i64 zm, .int .i64 zp] 68)) (by rw [hll]; exact hown5) hgrow5 (own_new hat (by simp)) rfl (fun _ => rfl) (Nat.lt_succ_self _) hdb
             rw [← HNj.out] at hpu
             have hbV := (hbv.trans ((h99.alloc h99.size _).mono hbv.size)).trans (hpu.2.2.1 W.heap.size (Nat.le_refl _))
             have hvs5 := (hpu.2.2.1 W.heap.size (Nat.le_refl _)).size
             go_roundw
             case rel => exact ⟨j + 1, _, _, by omega, by omega, by simp, hbV, by simp at hvs5 ⊢; omega, hpu.2.1, hpu.1⟩
             case measure => simp [intOf]; omega
           refine AllReadyH.cons rfl (fun K hK => ?_) .nil
           try simp only [gA, gB, gC]
           go_simp
           go_at_call 30
           (with_reducible refine (HSy.out _).mono ?_)
           rintro e w9 ⟨rfl, hb9⟩
           have h99 := (Below.refl V.heap.size V).drew.trans hb9
           have hk9 := HK.out _ h99
           have k9 := hk9.2
           have k9a := cell_alloc k9
           have h9o := HO.out _ h99
           have d9 := HB.out _ h99
           have h9s := h99.size
           go_wp2_with fail
           refine hK.out _ _ hk9.1 (fun hHeld => ?_)
           clear hK K
           try simp only [Act.put, gA, gB, gC, gD, gE, gF]
           refine wpAnyH_ready (rs := [1, 12]) (by kernel_rfl) (by simp) ?_
           refine AllReadyH.cons rfl (fun K hK => ?_) ?_
           · try simp only [gA, gB, gC]
             go_simp
             refine hK.out _ _ (by assumption) (fun hHeld => ?_)
             clear hK K
             try simp only [Act.put, gA, gB, gC, gD, gE, gF]
             refine wpAnyH_ready (rs := [12]) (by kernel_rfl) (by simp) ?_
             refine AllReadyH.cons rfl (fun K hK => ?_) .nil
             try simp only [gA, gB, gC]
             go_simp
             have hka : _ ∧ _ ∧ _ ∧ _ ∧ _ ∧ _ := ⟨cell_alloc hk9.1.1 (.cells #[.string zn, .bool zl, .int .i64 zm, .int .i64 zp] 68), cell_alloc hk9.1.2.1 (.cells #[.string zn, .bool zl, .int .i64 zm, .int .i64 zp] 68), cell_alloc hk9.1.2.2.1 (.cells #[.string zn, .bool zl, .int .i64 zm, .int .i64 zp] 68), cell_alloc hk9.1.2.2.2.1 (.cells #[.string zn, .bool zl, .int .i64 zm, .int .i64 zp] 68), cell_alloc hk9.1.2.2.2.2.1 (.cells #[.string zn, .bool zl, .int .i64 zm, .int .i64 zp] 68), cell_alloc hk9.1.2.2.2.2.2 (.cells #[.string zn, .bool zl, .int .i64 zm, .int .i64 zp] 68)⟩
             refine hK.out _ _ hka (fun hHeld => ?_)
             clear hK K
             try simp only [Act.put, gA, gB, gC, gD, gE, gF]
             refine wpAnyH_ready (rs := [13]) (by kernel_rfl) (by simp) ?_
             refine AllReadyH.cons rfl (fun K hK => ?_) .nil
             skip
             refine step_append_lies _ (by rfl) _ _ _ (by rfl) (W.heap.size + 1) 68 i0 (.agg #[.string ByteArray.empty, .bool false, .int .i64 0, .int .i64 0]) 4 40 Try.underlying62 hi iz0 iz1 iz2 rfl (by omega) sv j ys (by rfl) (h9o.alloc _)
              ⟨w9.heap.size, 0, none⟩ 1 1 [.string zn, .bool zl, .int .i64 zm, .int .i64 zp] (by rfl) (by rfl) (news_of w9 _ _) (by simp [Value.oneCell'])
              (by omega) (by unfold maxLen; omega) (by omega) (by simp; omega) (w9.heap.size + 1) (by simp) ?_
             intro gg cap w5 hown5 hgrow5 hat hlt5
             have f5 : w5.cell? ⟨W.heap.size, 2, none⟩ = some sv := hgrow5.cell (cell_alloc k9 _) hne
             have k5 : _ ∧ _ ∧ _ ∧ _ ∧ _ ∧ _ := ⟨hgrow5.cell hka.1 (Ne.symm hn0.2.2), hgrow5.cell hka.2.1 (Ne.symm hn0.1), hgrow5.cell hka.2.2.1 (Ne.symm hn0.2.1), hgrow5.cell hka.2.2.2.1 (Ne.symm hn0.2.1), hgrow5.cell hka.2.2.2.2.1 (Ne.symm hn0.2.1), hgrow5.cell hka.2.2.2.2.2 (Ne.symm hn0.2.1)⟩
             have r5 : w5.frozen? ⟨W.heap.size, 2, none⟩ = false := (hgrow5.frozen_far ⟨W.heap.size, 2, none⟩ (by simp; omega) hne).trans (free_of_block (heap_put _ _ d9))
             refine hK.out _ _ k5 (fun hHeld => ?_)
             clear hK K
             try simp only [Act.put, gA, gB, gC, gD, gE, gF]
             refine tk 14 ?_
             try simp only [Act.put, gA, gB, gC, gD, gE, gF]
             refine wpAnyH_ready (rs := [15]) (by kernel_rfl) (by simp) ?_
             refine AllReadyH.cons rfl (fun K hK => ?_) .nil
             try simp only [gA, gB, gC]
             go_simp
             refine hK.out _ _ ⟨(World.cell?_setCell_far _ _ _ _ nw).trans k5.1, (World.cell?_setCell_far _ _ _ _ nb).trans k5.2.1, (World.cell?_setCell_far _ _ _ _ nb3).trans k5.2.2.1, (World.cell?_setCell_far _ _ _ _ nb3).trans k5.2.2.2.1, (World.cell?_setCell_far _ _ _ _ nb3).trans k5.2.2.2.2.1, (World.cell?_setCell_far _ _ _ _ nb3).trans k5.2.2.2.2.2⟩ (fun hHeld => ?_)
             clear hK K
             try simp only [Act.put, gA, gB, gC, gD, gE, gF]
             refine wpAnyH_done (by kernel_rfl) ?_ _
             go_wp2_with fail
             have hpu := hg.box0 (j := 2) (x := ⟨zn, zl, zm, zp⟩) (h99.alloc h99.size (.cells #[.string zn, .bool zl, .int .i64 zm, .int .i64 zp] 68)) (by rw [hll]; exact hown5) hgrow5 (own_new hat (by simp)) rfl (fun _ => rfl) (Nat.lt_succ_self _) hdb
             rw [← HNj.out] at hpu
             have hbV := (hbv.trans ((h99.alloc h99.size _).mono hbv.size)).trans (hpu.2.2.1 W.heap.size (Nat.le_refl _))
             have hvs5 := (hpu.2.2.1 W.heap.size (Nat.le_refl _)).size
             go_roundw
             case rel => exact ⟨j + 1, _, _, by omega, by omega, by simp, hbV, by simp at hvs5 ⊢; omega, hpu.2.1, hpu.1⟩
             case measure => simp [intOf]; omega
           refine AllReadyH.cons rfl (fun K hK => ?_) .nil
           try simp only [gA, gB, gC]
           go_simp
           have hka : _ ∧ _ ∧ _ ∧ _ ∧ _ ∧ _ := ⟨cell_alloc hk9.1.1 (.cells #[.string zn, .bool zl, .int .i64 zm, .int .i64 zp] 68), cell_alloc hk9.1.2.1 (.cells #[.string zn, .bool zl, .int .i64 zm, .int .i64 zp] 68), cell_alloc hk9.1.2.2.1 (.cells #[.string zn, .bool zl, .int .i64 zm, .int .i64 zp] 68), cell_alloc hk9.1.2.2.2.1 (.cells #[.string zn, .bool zl, .int .i64 zm, .int .i64 zp] 68), cell_alloc hk9.1.2.2.2.2.1 (.cells #[.string zn, .bool zl, .int .i64 zm, .int .i64 zp] 68), cell_alloc hk9.1.2.2.2.2.2 (.cells #[.string zn, .bool zl, .int .i64 zm, .int .i64 zp] 68)⟩
           refine hK.out _ _ hka (fun hHeld => ?_)
           clear hK K
           try simp only [Act.put, gA, gB, gC, gD, gE, gF]
           refine wpAnyH_ready (rs := [1]) (by kernel_rfl) (by simp) ?_
           refine AllReadyH.cons rfl (fun K hK => ?_) .nil
           try simp only [gA, gB, gC]
           go_simp
           refine hK.out _ _ (by assumption) (fun hHeld => ?_)
           clear hK K
           try simp only [Act.put, gA, gB, gC, gD, gE, gF]
           refine wpAnyH_ready (rs := [13]) (by kernel_rfl) (by simp) ?_
           refine AllReadyH.cons rfl (fun K hK => ?_) .nil
           skip
           refine step_append_lies _ (by rfl) _ _ _ (by rfl) (W.heap.size + 1) 68 i0 (.agg #[.string ByteArray.empty, .bool false, .int .i64 0, .int .i64 0]) 4 40 Try.underlying62 hi iz0 iz1 iz2 rfl (by omega) sv j ys (by rfl) (h9o.alloc _)
            ⟨w9.heap.size, 0, none⟩ 1 1 [.string zn, .bool zl, .int .i64 zm, .int .i64 zp] (by rfl) (by rfl) (news_of w9 _ _) (by simp [Value.oneCell'])
            (by omega) (by unfold maxLen; omega) (by omega) (by simp; omega) (w9.heap.size + 1) (by simp) ?_
           intro gg cap w5 hown5 hgrow5 hat hlt5
           have f5 : w5.cell? ⟨W.heap.size, 2, none⟩ = some sv := hgrow5.cell (cell_alloc k9 _) hne
           have k5 : _ ∧ _ ∧ _ ∧ _ ∧ _ ∧ _ := ⟨hgrow5.cell hka.1 (Ne.symm hn0.2.2), hgrow5.cell hka.2.1 (Ne.symm hn0.1), hgrow5.cell hka.2.2.1 (Ne.symm hn0.2.1), hgrow5.cell hka.2.2.2.1 (Ne.symm hn0.2.1), hgrow5.cell hka.2.2.2.2.1 (Ne.symm hn0.2.1), hgrow5.cell hka.2.2.2.2.2 (Ne.symm hn0.2.1)⟩
           have r5 : w5.frozen? ⟨W.heap.size, 2, none⟩ = false := (hgrow5.frozen_far ⟨W.heap.size, 2, none⟩ (by simp; omega) hne).trans (free_of_block (heap_put _ _ d9))
           refine hK.out _ _ k5 (fun hHeld => ?_)
           clear hK K
           try simp only [Act.put, gA, gB, gC, gD, gE, gF]
           refine tk 14 ?_
           try simp only [Act.put, gA, gB, gC, gD, gE, gF]
           refine wpAnyH_ready (rs := [15]) (by kernel_rfl) (by simp) ?_
           refine AllReadyH.cons rfl (fun K hK => ?_) .nil
           try simp only [gA, gB, gC]
           go_simp
           refine hK.out _ _ ⟨(World.cell?_setCell_far _ _ _ _ nw).trans k5.1, (World.cell?_setCell_far _ _ _ _ nb).trans k5.2.1, (World.cell?_setCell_far _ _ _ _ nb3).trans k5.2.2.1, (World.cell?_setCell_far _ _ _ _ nb3).trans k5.2.2.2.1, (World.cell?_setCell_far _ _ _ _ nb3).trans k5.2.2.2.2.1, (World.cell?_setCell_far _ _ _ _ nb3).trans k5.2.2.2.2.2⟩ (fun hHeld => ?_)
           clear hK K
           try simp only [Act.put, gA, gB, gC, gD, gE, gF]
           refine wpAnyH_done (by kernel_rfl) ?_ _
           go_wp2_with fail
           have hpu := hg.box0 (j := 2) (x := ⟨zn, zl, zm, zp⟩) (h99.alloc h99.size (.cells #[.string zn, .bool zl, .int .i64 zm, .int .i64 zp] 68)) (by rw [hll]; exact hown5) hgrow5 (own_new hat (by simp)) rfl (fun _ => rfl) (Nat.lt_succ_self _) hdb
           rw [← HNj.out] at hpu
           have hbV := (hbv.trans ((h99.alloc h99.size _).mono hbv.size)).trans (hpu.2.2.1 W.heap.size (Nat.le_refl _))
           have hvs5 := (hpu.2.2.1 W.heap.size (Nat.le_refl _)).size
           go_roundw
           case rel => exact ⟨j + 1, _, _, by omega, by omega, by simp, hbV, by simp at hvs5 ⊢; omega, hpu.2.1, hpu.1⟩
           case measure => simp [intOf]; omega
        · have hlast : (sy.take j).map Sm.cut = (sy.take 6).map Sm.cut := cut_done Sm.cut hj5 (by have := hnx.out; omega) (by have := hnx.out; omega)
          rw [hlast] at hg
          have hF := hg.firm (by omega)
          obtain ⟨i0, hi, iz0, iz1, iz2⟩ := info_parts Try.infoDecl
          have hGv := hG.below hbv
          have hown := hGv.own
          rw [hlk] at hown
          have hcl := hM.lt
          have hcb := (hbv.block (w.heap.size + 2) hcl).trans hM.out
          have e1 : V.cell? ⟨w.heap.size + 2, 1, none⟩ = some dv := cell_of_row _ _ 1 _ _ _ hcb
          have d0 : V.cell? ⟨W.heap.size, 0, none⟩ = some (.int .i64 kd) := cell_of_row _ _ 0 _ _ _ hdb
          have d1 : V.cell? ⟨W.heap.size, 1, none⟩ = some (.string tc) := cell_of_row _ _ 1 _ _ _ hdb
          have d3 : V.cell? ⟨W.heap.size, 3, none⟩ = some (.int .i64 po) := cell_of_row _ _ 3 _ _ _ hdb
          have hne : some (w.heap.size + 2) ≠ dv.ownBlock := fun h => by have := own_base hown (Nat.le_refl _) _ h.symm; omega
          have hsv1 := slice_one hg.own
          have ec := cell_alloc e1 (.cells #[.int .i64 kd, .string tc, sv, .int .i64 po] 64)
          have hfr := free_of_block (b := w.heap.size + 2) (j := 1) (heap_put _ (.cells #[.int .i64 kd, .string tc, sv, .int .i64 po] 64) hcb)
          have hdl : ∀ k, dv.ownBlock = some k → k < W.heap.size := fun k hk => (hG.lt k (.inr hk))
          have hsl : ∀ b, (False ∨ sv.ownBlock = some b) → W.heap.size + 1 ≤ b := fun b hb => hb.elim (fun h => h.elim) (fun h => own_base hg.own (Nat.le_refl _) b h)
          have hgA : ∀ (gg cap : Nat) (w5 : World), w5.ownsRow (w.heap.size + 3) 64 4 (.slice (some ⟨gg, 0, none⟩) (k + 1) cap) (k + 1) (xs ++ [.int .i64 kd, .string tc, sv, .int .i64 po]) → (V.alloc (.cells #[.int .i64 kd, .string tc, sv, .int .i64 po] 64)).grownBy w5 dv.ownBlock → (dv.ownBlock = some gg ∨ gg = V.heap.size + 1) → _ := fun gg cap w5 hown5 hgrow5 hat => GrowL.box (j := 1) hG (hbv.alloc hbv.size (.cells #[.int .i64 kd, .string tc, sv, .int .i64 po] 64)) (by rw [hlk]; exact hown5) hgrow5 (own_new hat (by simp)) rfl (x := xc)
           (Firm.imp (hF.below ((Below.refl V.heap.size V).alloc (Nat.le_refl _) (.cells #[.int .i64 kd, .string tc, sv, .int .i64 po] 64))) (fun w' hw' => by rw [HDc.out]; exact ⟨sv, rfl, hw'⟩))
           (fun k hk hS => by have := hsl k hS; have := hdl k hk; omega) (Nat.lt_succ_self _) hM.out (fun b hb => by rcases hb with hb | hb; (have := HS.out b hb; omega); (have := hsl b hb; omega))
          have HGA := Lib.hid hgA
          have HSL := Lib.hid hsl
          clear hgA hsl hdl hF hGv hxx HSI
          by_cases hg1 : j < nx
          · have i5 : ¬ ((j : Int) < 6) := by omega
            have j1 : (j : Int) < (nx : Int) := by omega
            go_wp2_with (first | (refine wpList_append_lies _ (by rfl) _ _ _ (by rfl) (w.heap.size + 3) 64 i0 (.agg #[.int .i64 0, .string ByteArray.empty, .slice none 0 0, .int .i64 0]) 4 56 Try.underlying22 hi iz0 iz1 iz2 rfl (by omega) dv k xs (by rfl) (hown.alloc _) ⟨V.heap.size, 0, none⟩ 1 1 [.int .i64 kd, .string tc, sv, .int .i64 po] (by rfl) (by rfl) (news_of V _ _) (List.forall_mem_cons.2 ⟨rfl, List.forall_mem_cons.2 ⟨rfl, List.forall_mem_cons.2 ⟨hsv1, List.forall_mem_cons.2 ⟨rfl, by simp⟩⟩⟩⟩) (by omega) (by unfold maxLen; omega) (by omega) (by simp; omega) (V.heap.size + 1) (by simp) ?_; intro gg cap w5 hown5 hgrow5 hat hlt5; have hga := HGA.out gg cap w5 hown5 hgrow5 hat; have f5 := hgrow5.cell ec hne; have r5 := (hgrow5.frozen_far ⟨w.heap.size + 2, 1, none⟩ (by simp; omega) hne).trans hfr))
            rw [← HN.out] at hga
            go_roundw
            case rel => exact ⟨k + 1, _, _, _, by omega, by omega, by simp, hM.step (hbv.alloc hbv.size (.cells #[.int .i64 kd, .string tc, sv, .int .i64 po] 64)) (hga.2.2.1 _ (Nat.le_refl _)) hga.2.1, hga.1, Lib.hid (fun b hb => hb.elim (HS.out b) (fun h => by have := HSL.out b h; omega))⟩
            case measure => simp [intOf]; omega
          · have j1 : ¬ ((j : Int) < (nx : Int)) := by omega
            go_wp2_with (first | (refine wpList_append_lies _ (by rfl) _ _ _ (by rfl) (w.heap.size + 3) 64 i0 (.agg #[.int .i64 0, .string ByteArray.empty, .slice none 0 0, .int .i64 0]) 4 56 Try.underlying22 hi iz0 iz1 iz2 rfl (by omega) dv k xs (by rfl) (hown.alloc _) ⟨V.heap.size, 0, none⟩ 1 1 [.int .i64 kd, .string tc, sv, .int .i64 po] (by rfl) (by rfl) (news_of V _ _) (List.forall_mem_cons.2 ⟨rfl, List.forall_mem_cons.2 ⟨rfl, List.forall_mem_cons.2 ⟨hsv1, List.forall_mem_cons.2 ⟨rfl, by simp⟩⟩⟩⟩) (by omega) (by unfold maxLen; omega) (by omega) (by simp; omega) (V.heap.size + 1) (by simp) ?_; intro gg cap w5 hown5 hgrow5 hat hlt5; have hga := HGA.out gg cap w5 hown5 hgrow5 hat; have f5 := hgrow5.cell ec hne; have r5 := (hgrow5.frozen_far ⟨w.heap.size + 2, 1, none⟩ (by simp; omega) hne).trans hfr))
            rw [← HN.out] at hga
            go_roundw
            case rel => exact ⟨k + 1, _, _, _, by omega, by omega, by simp, hM.step (hbv.alloc hbv.size (.cells #[.int .i64 kd, .string tc, sv, .int .i64 po] 64)) (hga.2.2.1 _ (Nat.le_refl _)) hga.2.1, hga.1, Lib.hid (fun b hb => hb.elim (HS.out b) (fun h => by have := HSL.out b h; omega))⟩
            case measure => simp [intOf]; omega
    · have hlast : (ds.take k).map Dc.cut = (ds.take 8).map Dc.cut := cut_done Dc.cut hk6 (by have := hn1.out; omega) (by have := hn1.out; omega)
      rw [hlast] at hG
      have hF := hG.firm (by omega)
      have HS2 : Hid (∀ b, (S b ∨ dv.ownBlock = some b) → w.heap.size + 3 ≤ b) := Lib.hid (fun b hb => hb.elim (HS.out b) (fun h => own_base hG.own (Nat.le_refl _) b h))
      clear hx1 HI2 hc1 hm1 hc2 hm2 hlast hG HS
      by_cases hg1 : k < n1
      · have i6 : ¬ ((k : Int) < 8) := by omega
        have i1 : (k : Int) < (n1 : Int) := by omega
        go_wp2_with fail
        go_meet
        case rel => exact ⟨dv, _, hM, hF, HS2⟩
      · have i1 : ¬ ((k : Int) < (n1 : Int)) := by omega
        go_wp2_with fail
        go_meet
        case rel => exact ⟨dv, _, hM, hF, HS2⟩
  case rest =>
   obtain ⟨dv, Sd, hM, hF, HSd⟩ := hcut
   rename World => W1
   have HW1 : Hid (∀ b, Sd b → w.heap.size + 3 ≤ b ∧ b < W1.heap.size) := Lib.hid (fun b hb => ⟨HSd.out b hb, hF.1 b hb⟩)
   have hW1 := hM.lt
   clear HSd hx1 HI2 hc1 hm1
   go_wp2_with fail
   go_loopw [7] (fun i W => ∃ (k : Nat) (rv : Value) (xs : List Value) (S : Nat → Prop), k ≤ n2 ∧ k ≤ 6 ∧ i = .int .i64 k ∧ CutM w #[.string pr, .slice a1 n1 c1, .slice a2 n2 c2, .string ta] cp ct dv rv W ∧ Firm Sd W (fun X => ListV 4 dcR X dv ((ds.take 8).map Dc.cut)) ∧ GrowL W1.heap.size 74 3 rlR S W rv xs ((rs.take k).map Rl.cut) ∧ Hid (∀ b, S b → W1.heap.size ≤ b) ∧ W1.heap.size ≤ W.heap.size) (fun i _ => n2 - (intOf i).toNat)
   case atStart => exact ⟨0, _, [], _, Nat.zero_le _, by omega, rfl, hM, hF, GrowL.nil _ _ _ _ _, Lib.hid (fun _ h => h.elim), Nat.le_refl _⟩
   case round =>
    clear hM hF
    obtain ⟨k, rv, xs, S, hk, hk5, rfl, hM, hF, hG, HS, hWW⟩ := hrel
    rename World => W
    have s1 : W.cell? ⟨w.heap.size, 2, none⟩ = some (.slice a2 n2 c2) := cell_of_row _ _ 2 _ _ _ hM.src
    by_cases hgo : k < n2 ∧ k < 6
    · obtain ⟨hlt, h6⟩ := hgo
      obtain ⟨b, o, x, ax0, rfl, ex, hal, x0, x1, x2⟩ := hx2.out k hlt
      obtain ⟨ax, nx, cx, rfl, hnx, hcx, hmx, hxx⟩ := hal.open
      have hbw := hM.below
      have hb1 := World.block_lt_of_cell? _ _ x0
      replace x0 := (hbw.cell (p := ⟨b, o + k * 3, none⟩) hb1).trans x0
      replace x1 := (hbw.cell (p := ⟨b, o + k * 3 + 1, none⟩) hb1).trans x1
      replace x2 := (hbw.cell (p := ⟨b, o + k * 3 + 2, none⟩) hb1).trans x2
      have hDI := HI3.out x (List.mem_of_getElem? ex)
      have HN := Lib.hid (cut_next Rl.cut (m := 6) ex)
      have HTg : Hid (∀ W, Calls Try.prog 29 #[.string x.left, .int .i64 25] W fun e w' => e = .returned (.string (cutT x.left 25)) ∧ W = w') := Lib.hid (fun W => text_25 x.left W hDI.1)
      have HDc : Hid (x.cut = ⟨cutT x.left 25, (x.alts.take 5).map Al.cut, x.pos⟩) := Lib.hid rfl
      generalize x.cut = xc at HN HDc
      have HAI := Lib.hid hDI.2.1
      obtain ⟨lf, al, po⟩ := x
      simp only at x0 x1 x2 HTg HDc hnx hxx HAI
      generalize cutT lf 25 = lc at HTg HDc
      have i1 : (k : Int) < (n2 : Int) := by omega
      have i6 : (k : Int) < 6 := by omega
      have hlk : ((rs.take k).map Rl.cut).length = k := by rw [List.length_map, List.length_take]; have := hn2.out; omega
      clear ex hal hDI hx2 HI3 hc2 hm2 hcx hmx
      go_upto_region 14 with fail
      go_cut [8] from 98 to 111 (fun x wx => x = .pointer (some ⟨W.heap.size, 0, none⟩) ∧ wx = (W.alloc (.cells #[.string lc, .slice none 0 0, .int .i64 po] 74)).drew)
      case first =>
       go_region_held3 (fun W => W.cell? ⟨w.heap.size, 2, none⟩ = some (.slice (some ⟨b, o, none⟩) n2 c2) ∧ W.cell? ⟨b, o + k * 3, none⟩ = some (.string lf) ∧ W.cell? ⟨b, o + k * 3 + 2, none⟩ = some (.int .i64 po))
        (first | go_keep | exact ⟨s1, x0, x2⟩)
        (first | (go_at_call 29; (with_reducible refine (HTg.out _).mono ?_); rintro e w9 ⟨rfl, rfl⟩))
       all_goals
        go_wp2_with fail
        go_meet
        case rel => exact ⟨by simp, rfl⟩
      case rest =>
       obtain ⟨rfl, rfl⟩ := hcut
       have hV0 : ((W.alloc (.cells #[.string lc, Value.slice none 0 0, .int .i64 po] 74)).drew).heap[W.heap.size]? = some (.cells #[.string lc, Value.slice none 0 0, .int .i64 po] 74 (0, 0)) := heap_new W _ _ _ rfl
       have hbV := ((Below.refl W.heap.size W).alloc (Nat.le_refl _) (.cells #[.string lc, Value.slice none 0 0, .int .i64 po] 74)).drew
       have hsV : ((W.alloc (.cells #[.string lc, Value.slice none 0 0, .int .i64 po] 74)).drew).heap.size = W.heap.size + 1 := World.size_alloc _ _
       generalize (W.alloc (.cells #[.string lc, Value.slice none 0 0, .int .i64 po] 74)).drew = V0 at hV0 hbV hsV ⊢
       have hWs := hM.below.size
       have hbs1 := World.block_lt_of_cell? _ _ s1
       have hbx1 := World.block_lt_of_cell? _ _ x1
       go_wp2_with fail
       go_loopw [9] (fun i V => ∃ (j : Nat) (av : Value) (ys : List Value) (S2 : Nat → Prop), j ≤ nx ∧ j ≤ 5 ∧ i = .int .i64 j ∧ Below W.heap.size W V ∧ W.heap.size + 1 ≤ V.heap.size ∧ V.heap[W.heap.size]? = some (.cells #[.string lc, av, .int .i64 po] 74 (0, 0)) ∧ GrowL (W.heap.size + 1) 71 6 alR S2 V av ys ((al.take j).map Al.cut) ∧ Hid (∀ b, S2 b → W.heap.size + 1 ≤ b)) (fun i _ => nx - (intOf i).toNat)
       case atStart => exact ⟨0, _, [], _, Nat.zero_le _, by omega, rfl, hbV, by omega, hV0, GrowL.nil _ _ _ _ _, Lib.hid (fun _ h => h.elim)⟩
       case round =>
        clear hV0 hbV hsV
        obtain ⟨j, av, ys, S2, hj, hj4, rfl, hbv, hvs, hdb, hg, HS2⟩ := hrel
        rename World => V
        have t1 := (hbv.cell hbs1).trans s1
        have t2 := (hbv.cell hbx1).trans x1
        by_cases hgo2 : j < nx ∧ j < 5
        · obtain ⟨hjt, hj6⟩ := hgo2
          obtain ⟨b3, o3, u, pv0, rfl, eu, hpt, u0, u1, u2, u3, u4, u5⟩ := hxx.out j hjt
          obtain ⟨ap, np, cpp, rfl, hnp, hcp, hmp, hpx⟩ := hpt.open
          have hb3 := World.block_lt_of_cell? _ _ u0
          have hb3w : b3 < W.heap.size := Nat.lt_of_lt_of_le hb3 hWs
          replace u0 := (hbv.cell (p := ⟨b3, o3 + j * 6, none⟩) hb3w).trans ((hbw.cell (p := ⟨b3, o3 + j * 6, none⟩) hb3).trans u0)
          replace u1 := (hbv.cell (p := ⟨b3, o3 + j * 6 + 1, none⟩) hb3w).trans ((hbw.cell (p := ⟨b3, o3 + j * 6 + 1, none⟩) hb3).trans u1)
          replace u2 := (hbv.cell (p := ⟨b3, o3 + j * 6 + 2, none⟩) hb3w).trans ((hbw.cell (p := ⟨b3, o3 + j * 6 + 2, none⟩) hb3).trans u2)
          replace u3 := (hbv.cell (p := ⟨b3, o3 + j * 6 + 3, none⟩) hb3w).trans ((hbw.cell (p := ⟨b3, o3 + j * 6 + 3, none⟩) hb3).trans u3)
          replace u4 := (hbv.cell (p := ⟨b3, o3 + j * 6 + 4, none⟩) hb3w).trans ((hbw.cell (p := ⟨b3, o3 + j * 6 + 4, none⟩) hb3).trans u4)
          replace u5 := (hbv.cell (p := ⟨b3, o3 + j * 6 + 5, none⟩) hb3w).trans ((hbw.cell (p := ⟨b3, o3 + j * 6 + 5, none⟩) hb3).trans u5)
          have hUI := HAI.out u (List.mem_of_getElem? eu)
          have HNj := Lib.hid (cut_next Al.cut (m := 5) eu)
          have HSy := Lib.hid (fun X => symCut_any u.prec X hUI.2.1.1)
          have HAc : Hid (u.cut = ⟨(u.parts.take 6).map Pt.cut, u.prec.cut, u.pos⟩) := Lib.hid rfl
          have HPI := Lib.hid hUI.1
          have hll : ((al.take j).map Al.cut).length = j := by rw [List.length_map, List.length_take]; have := hnx.out; omega
          generalize u.cut = uc at HNj HAc
          obtain ⟨pp, ⟨un, ul, um, up⟩, po2⟩ := u
          simp only at u0 u1 u2 u3 u4 u5 HSy HAc HPI hnp hpx
          generalize (Sm.mk un ul um up).cut = zc at HSy HAc
          obtain ⟨zn, zl, zm, zp⟩ := zc
          simp only [Sm.agg] at HSy
          have j1 : (j : Int) < (nx : Int) := by omega
          have j5 : (j : Int) < 5 := by omega
          have HK := Lib.hid (fun (X : World) (hX : Below V.heap.size V X) => show X.cell? ⟨w.heap.size, 2, none⟩ = some (.slice (some ⟨b, o, none⟩) n2 c2) ∧ X.cell? ⟨b, o + k * 3 + 1, none⟩ = some (.slice (some ⟨b3, o3, none⟩) nx cx) ∧ X.cell? ⟨b3, o3 + j * 6 + 1, none⟩ = some (.string un) ∧ X.cell? ⟨b3, o3 + j * 6 + 2, none⟩ = some (.bool ul) ∧ X.cell? ⟨b3, o3 + j * 6 + 3, none⟩ = some (.int .i64 um) ∧ X.cell? ⟨b3, o3 + j * 6 + 4, none⟩ = some (.int .i64 up) ∧ X.cell? ⟨b3, o3 + j * 6 + 5, none⟩ = some (.int .i64 po2) from
           ⟨(hX.cell (World.block_lt_of_cell? _ _ t1)).trans t1, (hX.cell (World.block_lt_of_cell? _ _ t2)).trans t2, (hX.cell (World.block_lt_of_cell? _ _ u1)).trans u1, (hX.cell (World.block_lt_of_cell? _ _ u2)).trans u2, (hX.cell (World.block_lt_of_cell? _ _ u3)).trans u3, (hX.cell (World.block_lt_of_cell? _ _ u4)).trans u4, (hX.cell (World.block_lt_of_cell? _ _ u5)).trans u5⟩)
          clear eu hxx HAI hpt hUI hcp hmp
          go_upto_region 18 with fail
          go_cut [10] from 127 to 148 (fun x wx => ∃ Ba : Nat, V.heap.size ≤ Ba ∧ x = .pointer (some ⟨Ba, 0, none⟩) ∧ Below V.heap.size V wx ∧ wx.heap[Ba]? = some (.cells #[.slice none 0 0, .string zn, .bool zl, .int .i64 zm, .int .i64 zp, .int .i64 po2] 71 (0, 0)) ∧ Ba + 1 ≤ wx.heap.size)
          case first =>
           refine wp_region_held_drew (S := (fun X => X.cell? ⟨w.heap.size, 2, none⟩ = some (.slice (some ⟨b, o, none⟩) n2 c2) ∧ X.cell? ⟨b, o + k * 3 + 1, none⟩ = some (.slice (some ⟨b3, o3, none⟩) nx cx) ∧ X.cell? ⟨b3, o3 + j * 6 + 1, none⟩ = some (.string un) ∧ X.cell? ⟨b3, o3 + j * 6 + 2, none⟩ = some (.bool ul) ∧ X.cell? ⟨b3, o3 + j * 6 + 3, none⟩ = some (.int .i64 um) ∧ X.cell? ⟨b3, o3 + j * 6 + 4, none⟩ = some (.int .i64 up) ∧ X.cell? ⟨b3, o3 + j * 6 + 5, none⟩ = some (.int .i64 po2))) (by kernel_rfl) ?hS0 (fun hHeld => ?hR0)
           case hS0 => exact ⟨t1, t2, u1, u2, u3, u4, u5⟩
           case hR0 =>
            refine tk 0 ?_
            try simp only [Act.put, gA, gB, gC, gD, gE, gF]
            refine tk 1 ?_
            try simp only [Act.put, gA, gB, gC, gD, gE, gF]
            refine tk 2 ?_
            try simp only [Act.put, gA, gB, gC, gD, gE, gF]
            refine tk 3 ?_
            try simp only [Act.put, gA, gB, gC, gD, gE, gF]
            refine tk 4 ?_
            try simp only [Act.put, gA, gB, gC, gD, gE, gF]
            refine tk 5 ?_
            try simp only [Act.put, gA, gB, gC, gD, gE, gF]
            refine tk 6 ?_
            try simp only [Act.put, gA, gB, gC, gD, gE, gF]
            refine tk 7 ?_
            try simp only [Act.put, gA, gB, gC, gD, gE, gF]
            refine tk 8 ?_
            try simp only [Act.put, gA, gB, gC, gD, gE, gF]
            refine tk 9 ?_
            try simp only [Act.put, gA, gB, gC, gD, gE, gF]
            refine tk 11 ?_
            try simp only [Act.put, gA, gB, gC, gD, gE, gF]
            refine tk 12 ?_
            try simp only [Act.put, gA, gB, gC, gD, gE, gF]
            refine tk 13 ?_
            try simp only [Act.put, gA, gB, gC, gD, gE, gF]
            refine tk 14 ?_
            try simp only [Act.put, gA, gB, gC, gD, gE, gF]
            refine tk 15 ?_
            try simp only [Act.put, gA, gB, gC, gD, gE, gF]
            refine tk 16 ?_
            try simp only [Act.put, gA, gB, gC, gD, gE, gF]
            refine tk 17 ?_
            try simp only [Act.put, gA, gB, gC, gD, gE, gF]
            refine tk 18 ?_
            try simp only [Act.put, gA, gB, gC, gD, gE, gF]
            refine tk 19 ?_
            try simp only [Act.put, gA, gB, gC, gD, gE, gF]
            refine tk 20 ?_
            try simp only [Act.put, gA, gB, gC, gD, gE, gF]
            refine wpAnyH_ready (rs := [10, 22]) (by kernel_rfl) (by simp) ?_
            refine AllReadyH.cons rfl (fun K hK => ?_) ?_
            · try simp only [gA, gB, gC]
              go_simp
              go_at_call 30
              (with_reducible refine (HSy.out _).mono ?_)
              rintro e w9 ⟨rfl, hb9⟩
              have h99 := (Below.refl V.heap.size V).drew.trans hb9
              have h9s := h99.size
              go_wp2_with fail
              refine hK.out _ _ (HK.out _ h99) (fun hHeld => ?_)
              clear hK K
              try simp only [Act.put, gA, gB, gC, gD, gE, gF]
              refine tk 21 ?_
              try simp only [Act.put, gA, gB, gC, gD, gE, gF]
              refine wpAnyH_ready (rs := [22]) (by kernel_rfl) (by simp) ?_
              refine AllReadyH.cons rfl (fun K hK => ?_) .nil
              try simp only [gA, gB, gC]
              go_simp
              refine hK.out _ _ (HK.out _ (h99.alloc h9s (.cells #[.slice none 0 0, .string ⟨#[]⟩, .bool false, .int .i64 0, .int .i64 0, .int .i64 0] 71))) (fun hHeld => ?_)
              clear hK K
              try simp only [Act.put, gA, gB, gC, gD, gE, gF]
              refine wpAnyH_ready (rs := [23]) (by kernel_rfl) (by simp) ?_
              refine AllReadyH.cons rfl (fun K hK => ?_) .nil
              try simp only [gA, gB, gC]
              go_simp
              refine hK.out _ _ (by first | exact HK.out _ (h99.alloc h9s _) | exact HK.out _ (set6_below h99 (Nat.le_refl _) _ _ _ _ _ _)) (fun hHeld => ?_)
              clear hK K
              try simp only [Act.put, gA, gB, gC, gD, gE, gF]
              refine wpAnyH_done (by kernel_rfl) ?_ _
              go_wp2_with fail
              go_meet
              case rel => exact ⟨w9.heap.size, h9s, by simp, h99.alloc h9s _, heap_new w9 _ _ _ rfl, by simp⟩
            refine AllReadyH.cons rfl (fun K hK => ?_) .nil
            try simp only [gA, gB, gC]
            go_simp
            refine hK.out _ _ (HK.out _ ((Below.refl V.heap.size V).alloc (Nat.le_refl _) (.cells #[.slice none 0 0, .string ⟨#[]⟩, .bool false, .int .i64 0, .int .i64 0, .int .i64 0] 71)).drew) (fun hHeld => ?_)
            clear hK K
            try simp only [Act.put, gA, gB, gC, gD, gE, gF]
            refine wpAnyH_ready (rs := [10]) (by kernel_rfl) (by simp) ?_
            refine AllReadyH.cons rfl (fun K hK => ?_) .nil
            try simp only [gA, gB, gC]
            go_simp
            go_at_call 30
            (with_reducible refine (HSy.out _).mono ?_)
            rintro e w9 ⟨rfl, hb9⟩
            have h99 := ((Below.refl V.heap.size V).alloc (Nat.le_refl _) (.cells #[.slice none 0 0, .string ⟨#[]⟩, .bool false, .int .i64 0, .int .i64 0, .int .i64 0] 71)).drew.trans (hb9.mono (by simp))
            have d9 : w9.heap[V.heap.size]? = some (.cells #[.slice none 0 0, .string ⟨#[]⟩, .bool false, .int .i64 0, .int .i64 0, .int .i64 0] 71 (0, 0)) := (hb9.block V.heap.size (by simp)).trans (heap_new V _ _ _ rfl)
            have z0 := cell_of_row w9 _ 0 _ _ _ d9
            have z1 := cell_of_row w9 _ 1 _ _ _ d9
            have z2 := cell_of_row w9 _ 2 _ _ _ d9
            have z3 := cell_of_row w9 _ 3 _ _ _ d9
            have z4 := cell_of_row w9 _ 4 _ _ _ d9
            have z5 := cell_of_row w9 _ 5 _ _ _ d9
            have y0 := free_of_block (j := 0) d9
            have y1 := free_of_block (j := 1) d9
            have y2 := free_of_block (j := 2) d9
            have y3 := free_of_block (j := 3) d9
            have y4 := free_of_block (j := 4) d9
            have y5 := free_of_block (j := 5) d9
            have z0' : w9.cell? ⟨V.heap.size, 0, none⟩ = some (.slice none 0 0) := z0
            have z1' : w9.cell? ⟨V.heap.size, 1, none⟩ = some (.string ⟨#[]⟩) := z1
            have z2' : w9.cell? ⟨V.heap.size, 2, none⟩ = some (.bool false) := z2
            have z3' : w9.cell? ⟨V.heap.size, 3, none⟩ = some (.int .i64 0) := z3
            have z4' : w9.cell? ⟨V.heap.size, 4, none⟩ = some (.int .i64 0) := z4
            have z5' : w9.cell? ⟨V.heap.size, 5, none⟩ = some (.int .i64 0) := z5
            clear z0 z1 z2 z3 z4 z5
            go_wp2_with fail
            refine hK.out _ _ (HK.out _ h99) (fun hHeld => ?_)
            clear hK K
            try simp only [Act.put, gA, gB, gC, gD, gE, gF]
            refine tk 21 ?_
            try simp only [Act.put, gA, gB, gC, gD, gE, gF]
            refine wpAnyH_ready (rs := [23]) (by kernel_rfl) (by simp) ?_
            refine AllReadyH.cons rfl (fun K hK => ?_) .nil
            try simp only [gA, gB, gC]
            go_simp
            refine hK.out _ _ (by first | exact HK.out _ (h99.alloc h9s _) | exact HK.out _ (set6_below h99 (Nat.le_refl _) _ _ _ _ _ _)) (fun hHeld => ?_)
            clear hK K
            try simp only [Act.put, gA, gB, gC, gD, gE, gF]
            refine wpAnyH_done (by kernel_rfl) ?_ _
            go_wp2_with fail
            have hrow := set6_row d9 (.slice none 0 0) (.string zn) (.bool zl) (.int .i64 zm) (.int .i64 zp) (.int .i64 po2)
            go_meet
            case rel => exact ⟨V.heap.size, Nat.le_refl _, by simp, set6_below h99 (Nat.le_refl _) _ _ _ _ _ _, hrow, (Array.getElem?_eq_some_iff.1 hrow).1⟩
          case rest =>
           obtain ⟨Ba, hBa, rfl, hbU, hUb, hUs⟩ := hcut
           rename World => U0
           clear HK HSy u1 u2 u3 u4 u5
           have hVs := hbv.size
           have hbt1 := World.block_lt_of_cell? _ _ t1
           have hbt2 := World.block_lt_of_cell? _ _ t2
           have hbu0 := World.block_lt_of_cell? _ _ u0
           go_wp2_with fail
           go_loopw [11] (fun i U => ∃ (q : Nat) (pv : Value) (zs : List Value), q ≤ np ∧ q ≤ 6 ∧ i = .int .i64 q ∧ Below V.heap.size V U ∧ Ba + 1 ≤ U.heap.size ∧ U.heap[Ba]? = some (.cells #[pv, .string zn, .bool zl, .int .i64 zm, .int .i64 zp, .int .i64 po2] 71 (0, 0)) ∧ GrowL (Ba + 1) 78 6 ptR (fun _ => False) U pv zs ((pp.take q).map Pt.cut)) (fun i _ => np - (intOf i).toNat)
           case atStart => exact ⟨0, _, [], Nat.zero_le _, by omega, rfl, hbU, hUs, hUb, GrowL.nil _ _ _ _ _⟩
           case round =>
            clear hbU hUb hUs
            obtain ⟨q, pv, zs, hq, hq5, rfl, hbu, hus, hab, hgp⟩ := hrel
            rename World => U
            have r1 := (hbu.cell hbt1).trans t1
            have r2 := (hbu.cell hbt2).trans t2
            have r3 := (hbu.cell hbu0).trans u0
            by_cases hgo3 : q < np ∧ q < 6
            · obtain ⟨hqt, hq6⟩ := hgo3
              obtain ⟨b4, o4, y, rfl, ey, y0, y1, y2, y3, y4, y5⟩ := hpx.out q hqt
              have hb4 := World.block_lt_of_cell? _ _ y0
              have hb4w : b4 < W.heap.size := Nat.lt_of_lt_of_le hb4 hWs
              have hb4v : b4 < V.heap.size := Nat.lt_of_lt_of_le hb4w hVs
              replace y0 := (hbu.cell (p := ⟨b4, o4 + q * 6, none⟩) hb4v).trans ((hbv.cell (p := ⟨b4, o4 + q * 6, none⟩) hb4w).trans ((hbw.cell (p := ⟨b4, o4 + q * 6, none⟩) hb4).trans y0))
              replace y1 := (hbu.cell (p := ⟨b4, o4 + q * 6 + 1, none⟩) hb4v).trans ((hbv.cell (p := ⟨b4, o4 + q * 6 + 1, none⟩) hb4w).trans ((hbw.cell (p := ⟨b4, o4 + q * 6 + 1, none⟩) hb4).trans y1))
              replace y2 := (hbu.cell (p := ⟨b4, o4 + q * 6 + 2, none⟩) hb4v).trans ((hbv.cell (p := ⟨b4, o4 + q * 6 + 2, none⟩) hb4w).trans ((hbw.cell (p := ⟨b4, o4 + q * 6 + 2, none⟩) hb4).trans y2))
              replace y3 := (hbu.cell (p := ⟨b4, o4 + q * 6 + 3, none⟩) hb4v).trans ((hbv.cell (p := ⟨b4, o4 + q * 6 + 3, none⟩) hb4w).trans ((hbw.cell (p := ⟨b4, o4 + q * 6 + 3, none⟩) hb4).trans y3))
              replace y4 := (hbu.cell (p := ⟨b4, o4 + q * 6 + 4, none⟩) hb4v).trans ((hbv.cell (p := ⟨b4, o4 + q * 6 + 4, none⟩) hb4w).trans ((hbw.cell (p := ⟨b4, o4 + q * 6 + 4, none⟩) hb4).trans y4))
              replace y5 := (hbu.cell (p := ⟨b4, o4 + q * 6 + 5, none⟩) hb4v).trans ((hbv.cell (p := ⟨b4, o4 + q * 6 + 5, none⟩) hb4w).trans ((hbw.cell (p := ⟨b4, o4 + q * 6 + 5, none⟩) hb4).trans y5))
              have hYI := HPI.out y (List.mem_of_getElem? ey)
              have HNq := Lib.hid (cut_next Pt.cut (m := 6) ey)
              have HSp := Lib.hid (fun X => symCut_any y.sym X hYI.1.1)
              have HTp : Hid (∀ W, Calls Try.prog 29 #[.string y.code, .int .i64 60] W fun e w' => e = .returned (.string (cutT y.code 60)) ∧ W = w') := Lib.hid (fun W => text_60 y.code W hYI.2.1)
              have HPc : Hid (y.cut = ⟨y.sym.cut, cutT y.code 60, y.pos⟩) := Lib.hid rfl
              have hlq : ((pp.take q).map Pt.cut).length = q := by rw [List.length_map, List.length_take]; have := hnp.out; omega
              generalize y.cut = yu at HNq HPc
              obtain ⟨⟨yn, yl, ym, yp⟩, yc, yo⟩ := y
              simp only at y0 y1 y2 y3 y4 y5 HSp HTp HPc
              generalize (Sm.mk yn yl ym yp).cut = gc at HSp HPc
              obtain ⟨gn, gl, gm, gp⟩ := gc
              simp only [Sm.agg] at HSp
              generalize cutT yc 60 = yk at HTp HPc
              have hown := hgp.own
              rw [hlq] at hown
              obtain ⟨i0, hi, iz0, iz1, iz2⟩ := info_parts Try.infoPart
              have q1 : (q : Int) < (np : Int) := by omega
              have q5 : (q : Int) < 6 := by omega
              clear ey hpx hYI HPI
              go_upto_region 23 with fail
              have hQ : (U.alloc (.cells #[.string yn, .bool yl, .int .i64 ym, .int .i64 yp, .string yc, .int .i64 yo] 78)).heap[U.heap.size]? = some (.cells #[.string yn, .bool yl, .int .i64 ym, .int .i64 yp, .string yc, .int .i64 yo] 78 (0, 0)) := heap_new U _ _ _ rfl
              have hA := heap_put U (.cells #[.string yn, .bool yl, .int .i64 ym, .int .i64 yp, .string yc, .int .i64 yo] 78) hab
              have hUU := (Below.refl U.heap.size U).alloc (Nat.le_refl _) (.cells #[.string yn, .bool yl, .int .i64 ym, .int .i64 yp, .string yc, .int .i64 yo] 78)
              have hUs1 : (U.alloc (.cells #[.string yn, .bool yl, .int .i64 ym, .int .i64 yp, .string yc, .int .i64 yo] 78)).heap.size = U.heap.size + 1 := World.size_alloc _ _
              generalize U.alloc (.cells #[.string yn, .bool yl, .int .i64 ym, .int .i64 yp, .string yc, .int .i64 yo] 78) = Q at hQ hA hUU hUs1 ⊢
              have p0 : Q.cell? ⟨U.heap.size, 0, none⟩ = some (.string yn) := cell_of_row _ _ 0 _ _ _ hQ
              have p1 : Q.cell? ⟨U.heap.size, 1, none⟩ = some (.bool yl) := cell_of_row _ _ 1 _ _ _ hQ
              have p2 : Q.cell? ⟨U.heap.size, 2, none⟩ = some (.int .i64 ym) := cell_of_row _ _ 2 _ _ _ hQ
              have p3 : Q.cell? ⟨U.heap.size, 3, none⟩ = some (.int .i64 yp) := cell_of_row _ _ 3 _ _ _ hQ
              have p4 : Q.cell? ⟨U.heap.size, 4, none⟩ = some (.string yc) := cell_of_row _ _ 4 _ _ _ hQ
              have p5 : Q.cell? ⟨U.heap.size, 5, none⟩ = some (.int .i64 yo) := cell_of_row _ _ 5 _ _ _ hQ
              have t0 : Q.cell? ⟨Ba, 0, none⟩ = some pv := cell_of_row _ _ 0 _ _ _ hA
              have HK := Lib.hid (fun (X : World) (hX : Below Q.heap.size Q X) => show (X.cell? ⟨U.heap.size, 0, none⟩ = some (.string yn) ∧ X.cell? ⟨U.heap.size, 1, none⟩ = some (.bool yl) ∧ X.cell? ⟨U.heap.size, 2, none⟩ = some (.int .i64 ym) ∧ X.cell? ⟨U.heap.size, 3, none⟩ = some (.int .i64 yp) ∧ X.cell? ⟨U.heap.size, 4, none⟩ = some (.string yc) ∧ X.cell? ⟨U.heap.size, 5, none⟩ = some (.int .i64 yo)) ∧ X.cell? ⟨Ba, 0, none⟩ = some pv from
               ⟨⟨(hX.cell (World.block_lt_of_cell? _ _ p0)).trans p0, (hX.cell (World.block_lt_of_cell? _ _ p1)).trans p1, (hX.cell (World.block_lt_of_cell? _ _ p2)).trans p2, (hX.cell (World.block_lt_of_cell? _ _ p3)).trans p3, (hX.cell (World.block_lt_of_cell? _ _ p4)).trans p4, (hX.cell (World.block_lt_of_cell? _ _ p5)).trans p5⟩, (hX.cell (World.block_lt_of_cell? _ _ t0)).trans t0⟩)
              have hne : some Ba ≠ pv.ownBlock := fun h => by have := own_base hown (Nat.le_refl _) _ h.symm; omega
              have nq : Ba ≠ U.heap.size := by omega
              have hownQ := own_below hown hUU
              have HO := Lib.hid (fun (X : World) (hX : Below Q.heap.size Q X) => own_below hownQ hX)
              have HB := Lib.hid (fun (X : World) (hX : Below Q.heap.size Q X) => (hX.block Ba (by omega)).trans hA)
              have hn0 : pv.ownBlock ≠ some U.heap.size := fun h => by have := (hown.lt _ h).2; omega
              clear y0 y1 y2 y3 y4 y5 r1 r2 r3
              refine wp_region_held_drew (S := (fun X => (X.cell? ⟨U.heap.size, 0, none⟩ = some (.string yn) ∧ X.cell? ⟨U.heap.size, 1, none⟩ = some (.bool yl) ∧ X.cell? ⟨U.heap.size, 2, none⟩ = some (.int .i64 ym) ∧ X.cell? ⟨U.heap.size, 3, none⟩ = some (.int .i64 yp) ∧ X.cell? ⟨U.heap.size, 4, none⟩ = some (.string yc) ∧ X.cell? ⟨U.heap.size, 5, none⟩ = some (.int .i64 yo)))) (by kernel_rfl) ?hS0 (fun hHeld => ?hR0)
              case hS0 => exact ⟨p0, p1, p2, p3, p4, p5⟩
              case hR0 =>
               refine tk 0 ?_
               try simp only [Act.put, gA, gB, gC, gD, gE, gF]
               refine tk 2 ?_
               try simp only [Act.put, gA, gB, gC, gD, gE, gF]
               refine tk 3 ?_
               try simp only [Act.put, gA, gB, gC, gD, gE, gF]
               refine tk 5 ?_
               try simp only [Act.put, gA, gB, gC, gD, gE, gF]
               refine tk 6 ?_
               try simp only [Act.put, gA, gB, gC, gD, gE, gF]
               refine tk 8 ?_
               try simp only [Act.put, gA, gB, gC, gD, gE, gF]
               refine tk 9 ?_
               try simp only [Act.put, gA, gB, gC, gD, gE, gF]
               refine wpAnyH_ready (rs := [1, 4]) (by kernel_rfl) (by simp) ?_
               refine AllReadyH.cons rfl (fun K hK => ?_) ?_
               · try simp only [gA, gB, gC]
                 go_simp
                 refine hK.out _ _ (by assumption) (fun hHeld => ?_)
                 clear hK K
                 try simp only [Act.put, gA, gB, gC, gD, gE, gF]
                 refine wpAnyH_ready (rs := [4]) (by kernel_rfl) (by simp) ?_
                 refine AllReadyH.cons rfl (fun K hK => ?_) .nil
                 try simp only [gA, gB, gC]
                 go_simp
                 go_at_call 30
                 (with_reducible refine (HSp.out _).mono ?_)
                 rintro e w9 ⟨rfl, hb9⟩
                 have h99 := (Below.refl Q.heap.size Q).drew.trans hb9
                 have hk9 := HK.out _ h99
                 have k9 := hk9.2
                 have k9a := cell_alloc k9
                 have h9o := HO.out _ h99
                 have d9 := HB.out _ h99
                 have h9s := h99.size
                 go_wp2_with fail
                 refine hK.out _ _ hk9.1 (fun hHeld => ?_)
                 clear hK K
                 try simp only [Act.put, gA, gB, gC, gD, gE, gF]
                 refine wpAnyH_ready (rs := [7]) (by kernel_rfl) (by simp) ?_
                 refine AllReadyH.cons rfl (fun K hK => ?_) .nil
                 try simp only [gA, gB, gC]
                 go_simp
                 go_at_call 29
                 (with_reducible refine (HTp.out _).mono ?_)
                 rintro e w8 ⟨rfl, rfl⟩
                 go_wp2_with fail
                 refine hK.out _ _ (by assumption) (fun hHeld => ?_)
                 clear hK K
                 try simp only [Act.put, gA, gB, gC, gD, gE, gF]
                 refine tk 10 ?_
                 try simp only [Act.put, gA, gB, gC, gD, gE, gF]
                 refine wpAnyH_ready (rs := [11]) (by kernel_rfl) (by simp) ?_
                 refine AllReadyH.cons rfl (fun K hK => ?_) .nil
                 try simp only [gA, gB, gC]
                 go_simp
                 have hka : _ ∧ _ ∧ _ ∧ _ ∧ _ ∧ _ := ⟨cell_alloc hk9.1.1 (.cells #[.string gn, .bool gl, .int .i64 gm, .int .i64 gp, .string yk, .int .i64 yo] 78), cell_alloc hk9.1.2.1 (.cells #[.string gn, .bool gl, .int .i64 gm, .int .i64 gp, .string yk, .int .i64 yo] 78), cell_alloc hk9.1.2.2.1 (.cells #[.string gn, .bool gl, .int .i64 gm, .int .i64 gp, .string yk, .int .i64 yo] 78), cell_alloc hk9.1.2.2.2.1 (.cells #[.string gn, .bool gl, .int .i64 gm, .int .i64 gp, .string yk, .int .i64 yo] 78), cell_alloc hk9.1.2.2.2.2.1 (.cells #[.string gn, .bool gl, .int .i64 gm, .int .i64 gp, .string yk, .int .i64 yo] 78), cell_alloc hk9.1.2.2.2.2.2 (.cells #[.string gn, .bool gl, .int .i64 gm, .int .i64 gp, .string yk, .int .i64 yo] 78)⟩
                 refine hK.out _ _ hka (fun hHeld => ?_)
                 clear hK K
                 try simp only [Act.put, gA, gB, gC, gD, gE, gF]
                 refine wpAnyH_ready (rs := [12]) (by kernel_rfl) (by simp) ?_
                 refine AllReadyH.cons rfl (fun K hK => ?_) .nil
                 skip
                 refine step_append_lies _ (by rfl) _ _ _ (by rfl) (Ba + 1) 78 i0 (.agg #[.string ByteArray.empty, .bool false, .int .i64 0, .int .i64 0, .string ByteArray.empty, .int .i64 0]) 6 64 Try.underlying69 hi iz0 iz1 iz2 rfl (by omega) pv q zs (by rfl) (h9o.alloc _)
                  ⟨w9.heap.size, 0, none⟩ 1 1 [.string gn, .bool gl, .int .i64 gm, .int .i64 gp, .string yk, .int .i64 yo] (by rfl) (by rfl) (news_of w9 _ _) (by simp [Value.oneCell'])
                  (by omega) (by unfold maxLen; omega) (by omega) (by simp; omega) (w9.heap.size + 1) (by simp) ?_
                 intro gg cap w5 hown5 hgrow5 hat hlt5
                 have f5 : w5.cell? ⟨Ba, 0, none⟩ = some pv := hgrow5.cell (cell_alloc k9 _) hne
                 have k5 : _ ∧ _ ∧ _ ∧ _ ∧ _ ∧ _ := ⟨hgrow5.cell hka.1 (Ne.symm hn0), hgrow5.cell hka.2.1 (Ne.symm hn0), hgrow5.cell hka.2.2.1 (Ne.symm hn0), hgrow5.cell hka.2.2.2.1 (Ne.symm hn0), hgrow5.cell hka.2.2.2.2.1 (Ne.symm hn0), hgrow5.cell hka.2.2.2.2.2 (Ne.symm hn0)⟩
                 have r5 : w5.frozen? ⟨Ba, 0, none⟩ = false := (hgrow5.frozen_far ⟨Ba, 0, none⟩ (by simp; omega) hne).trans (free_of_block (heap_put _ _ d9))
                 refine hK.out _ _ k5 (fun hHeld => ?_)
                 clear hK K
                 try simp only [Act.put, gA, gB, gC, gD, gE, gF]
                 refine tk 13 ?_
                 try simp only [Act.put, gA, gB, gC, gD, gE, gF]
                 refine wpAnyH_ready (rs := [14]) (by kernel_rfl) (by simp) ?_
                 refine AllReadyH.cons rfl (fun K hK => ?_) .nil
                 try simp only [gA, gB, gC]
                 go_simp
                 refine hK.out _ _ ⟨(World.cell?_setCell_far _ _ _ _ nq).trans k5.1, (World.cell?_setCell_far _ _ _ _ nq).trans k5.2.1, (World.cell?_setCell_far _ _ _ _ nq).trans k5.2.2.1, (World.cell?_setCell_far _ _ _ _ nq).trans k5.2.2.2.1, (World.cell?_setCell_far _ _ _ _ nq).trans k5.2.2.2.2.1, (World.cell?_setCell_far _ _ _ _ nq).trans k5.2.2.2.2.2⟩ (fun hHeld => ?_)
                 clear hK K
                 try simp only [Act.put, gA, gB, gC, gD, gE, gF]
                 refine wpAnyH_done (by kernel_rfl) ?_ _
                 go_wp2_with fail
                 have hpu := hgp.box0 (j := 0) (x := ⟨⟨gn, gl, gm, gp⟩, yk, yo⟩) (hUU.trans ((h99.alloc h99.size (.cells #[.string gn, .bool gl, .int .i64 gm, .int .i64 gp, .string yk, .int .i64 yo] 78)).mono hUU.size)) (by rw [hlq]; exact hown5) hgrow5 (own_new hat (by simp)) rfl (fun _ => rfl) (Nat.lt_succ_self _) hab
                 rw [show (⟨⟨gn, gl, gm, gp⟩, yk, yo⟩ : Pt) = yu from HPc.out.symm, ← HNq.out] at hpu
                 have hbV := (hbu.trans ((hUU.trans ((h99.alloc h99.size _).mono hUU.size)).mono hbu.size)).trans (hpu.2.2.1 V.heap.size hBa)
                 have hvs5 := (hpu.2.2.1 Ba (Nat.le_refl _)).size
                 go_roundw
                 case rel => exact ⟨q + 1, _, _, by omega, by omega, by simp, hbV, by simp at hvs5 ⊢; omega, hpu.2.1, hpu.1⟩
                 case measure => simp [intOf]; omega
               refine AllReadyH.cons rfl (fun K hK => ?_) .nil
               try simp only [gA, gB, gC]
               go_simp
               go_at_call 30
               (with_reducible refine (HSp.out _).mono ?_)
               rintro e w9 ⟨rfl, hb9⟩
               have h99 := (Below.refl Q.heap.size Q).drew.trans hb9
               have hk9 := HK.out _ h99
               have k9 := hk9.2
               have k9a := cell_alloc k9
               have h9o := HO.out _ h99
               have d9 := HB.out _ h99
               have h9s := h99.size
               go_wp2_with fail
               refine hK.out _ _ hk9.1 (fun hHeld => ?_)
               clear hK K
               try simp only [Act.put, gA, gB, gC, gD, gE, gF]
               refine wpAnyH_ready (rs := [1, 7]) (by kernel_rfl) (by simp) ?_
               refine AllReadyH.cons rfl (fun K hK => ?_) ?_
               · try simp only [gA, gB, gC]
                 go_simp
                 refine hK.out _ _ (by assumption) (fun hHeld => ?_)
                 clear hK K
                 try simp only [Act.put, gA, gB, gC, gD, gE, gF]
                 refine wpAnyH_ready (rs := [7]) (by kernel_rfl) (by simp) ?_
                 refine AllReadyH.cons rfl (fun K hK => ?_) .nil
                 try simp only [gA, gB, gC]
                 go_simp
                 go_at_call 29
                 (with_reducible refine (HTp.out _).mono ?_)
                 rintro e w8 ⟨rfl, rfl⟩
                 go_wp2_with fail
                 refine hK.out _ _ (by assumption) (fun hHeld => ?_)
                 clear hK K
                 try simp only [Act.put, gA, gB, gC, gD, gE, gF]
                 refine tk 10 ?_
                 try simp only [Act.put, gA, gB, gC, gD, gE, gF]
                 refine wpAnyH_ready (rs := [11]) (by kernel_rfl) (by simp) ?_
                 refine AllReadyH.cons rfl (fun K hK => ?_) .nil
                 try simp only [gA, gB, gC]
                 go_simp
                 have hka : _ ∧ _ ∧ _ ∧ _ ∧ _ ∧ _ := ⟨cell_alloc hk9.1.1 (.cells #[.string gn, .bool gl, .int .i64 gm, .int .i64 gp, .string yk, .int .i64 yo] 78), cell_alloc hk9.1.2.1 (.cells #[.string gn, .bool gl, .int .i64 gm, .int .i64 gp, .string yk, .int .i64 yo] 78), cell_alloc hk9.1.2.2.1 (.cells #[.string gn, .bool gl, .int .i64 gm, .int .i64 gp, .string yk, .int .i64 yo] 78), cell_alloc hk9.1.2.2.2.1 (.cells #[.string gn, .bool gl, .int .i64 gm, .int .i64 gp, .string yk, .int .i64 yo] 78), cell_alloc hk9.1.2.2.2.2.1 (.cells #[.string gn, .bool gl, .int .i64 gm, .int .i64 gp, .string yk, .int .i64 yo] 78), cell_alloc hk9.1.2.2.2.2.2 (.cells #[.string gn, .bool gl, .int .i64 gm, .int .i64 gp, .string yk, .int .i64 yo] 78)⟩
                 refine hK.out _ _ hka (fun hHeld => ?_)
                 clear hK K
                 try simp only [Act.put, gA, gB, gC, gD, gE, gF]
                 refine wpAnyH_ready (rs := [12]) (by kernel_rfl) (by simp) ?_
                 refine AllReadyH.cons rfl (fun K hK => ?_) .nil
                 skip
                 refine step_append_lies _ (by rfl) _ _ _ (by rfl) (Ba + 1) 78 i0 (.agg #[.string ByteArray.empty, .bool false, .int .i64 0, .int .i64 0, .string ByteArray.empty, .int .i64 0]) 6 64 Try.underlying69 hi iz0 iz1 iz2 rfl (by omega) pv q zs (by rfl) (h9o.alloc _)
                  ⟨w9.heap.size, 0, none⟩ 1 1 [.string gn, .bool gl, .int .i64 gm, .int .i64 gp, .string yk, .int .i64 yo] (by rfl) (by rfl) (news_of w9 _ _) (by simp [Value.oneCell'])
                  (by omega) (by unfold maxLen; omega) (by omega) (by simp; omega) (w9.heap.size + 1) (by simp) ?_
                 intro gg cap w5 hown5 hgrow5 hat hlt5
                 have f5 : w5.cell? ⟨Ba, 0, none⟩ = some pv := hgrow5.cell (cell_alloc k9 _) hne
                 have k5 : _ ∧ _ ∧ _ ∧ _ ∧ _ ∧ _ := ⟨hgrow5.cell hka.1 (Ne.symm hn0), hgrow5.cell hka.2.1 (Ne.symm hn0), hgrow5.cell hka.2.2.1 (Ne.symm hn0), hgrow5.cell hka.2.2.2.1 (Ne.symm hn0), hgrow5.cell hka.2.2.2.2.1 (Ne.symm hn0), hgrow5.cell hka.2.2.2.2.2 (Ne.symm hn0)⟩
                 have r5 : w5.frozen? ⟨Ba, 0, none⟩ = false := (hgrow5.frozen_far ⟨Ba, 0, none⟩ (by simp; omega) hne).trans (free_of_block (heap_put _ _ d9))
                 refine hK.out _ _ k5 (fun hHeld => ?_)
                 clear hK K
                 try simp only [Act.put, gA, gB, gC, gD, gE, gF]
                 refine tk 13 ?_
                 try simp only [Act.put, gA, gB, gC, gD, gE, gF]
                 refine wpAnyH_ready (rs := [14]) (by kernel_rfl) (by simp) ?_
                 refine AllReadyH.cons rfl (fun K hK => ?_) .nil
                 try simp only [gA, gB, gC]
                 go_simp
                 refine hK.out _ _ ⟨(World.cell?_setCell_far _ _ _ _ nq).trans k5.1, (World.cell?_setCell_far _ _ _ _ nq).trans k5.2.1, (World.cell?_setCell_far _ _ _ _ nq).trans k5.2.2.1, (World.cell?_setCell_far _ _ _ _ nq).trans k5.2.2.2.1, (World.cell?_setCell_far _ _ _ _ nq).trans k5.2.2.2.2.1, (World.cell?_setCell_far _ _ _ _ nq).trans k5.2.2.2.2.2⟩ (fun hHeld => ?_)
                 clear hK K
                 try simp only [Act.put, gA, gB, gC, gD, gE, gF]
                 refine wpAnyH_done (by kernel_rfl) ?_ _
                 go_wp2_with fail
                 have hpu := hgp.box0 (j := 0) (x := ⟨⟨gn, gl, gm, gp⟩, yk, yo⟩) (hUU.trans ((h99.alloc h99.size (.cells #[.string gn, .bool gl, .int .i64 gm, .int .i64 gp, .string yk, .int .i64 yo] 78)).mono hUU.size)) (by rw [hlq]; exact hown5) hgrow5 (own_new hat (by simp)) rfl (fun _ => rfl) (Nat.lt_succ_self _) hab
                 rw [show (⟨⟨gn, gl, gm, gp⟩, yk, yo⟩ : Pt) = yu from HPc.out.symm, ← HNq.out] at hpu
                 have hbV := (hbu.trans ((hUU.trans ((h99.alloc h99.size _).mono hUU.size)).mono hbu.size)).trans (hpu.2.2.1 V.heap.size hBa)
                 have hvs5 := (hpu.2.2.1 Ba (Nat.le_refl _)).size
                 go_roundw
                 case rel => exact ⟨q + 1, _, _, by omega, by omega, by simp, hbV, by simp at hvs5 ⊢; omega, hpu.2.1, hpu.1⟩
                 case measure => simp [intOf]; omega
               refine AllReadyH.cons rfl (fun K hK => ?_) .nil
               try simp only [gA, gB, gC]
               go_simp
               go_at_call 29
               (with_reducible refine (HTp.out _).mono ?_)
               rintro e w8 ⟨rfl, rfl⟩
               go_wp2_with fail
               refine hK.out _ _ (by assumption) (fun hHeld => ?_)
               clear hK K
               try simp only [Act.put, gA, gB, gC, gD, gE, gF]
               refine tk 10 ?_
               try simp only [Act.put, gA, gB, gC, gD, gE, gF]
               refine wpAnyH_ready (rs := [1, 11]) (by kernel_rfl) (by simp) ?_
               refine AllReadyH.cons rfl (fun K hK => ?_) ?_
               · try simp only [gA, gB, gC]
                 go_simp
                 refine hK.out _ _ (by assumption) (fun hHeld => ?_)
                 clear hK K
                 try simp only [Act.put, gA, gB, gC, gD, gE, gF]
                 refine wpAnyH_ready (rs := [11]) (by kernel_rfl) (by simp) ?_
                 refine AllReadyH.cons rfl (fun K hK => ?_) .nil
                 try simp only [gA, gB, gC]
                 go_simp
                 have hka : _ ∧ _ ∧ _ ∧ _ ∧ _ ∧ _ := ⟨cell_alloc hk9.1.1 (.cells #[.string gn, .bool gl, .int .i64 gm, .int .i64 gp, .string yk, .int .i64 yo] 78), cell_alloc hk9.1.2.1 (.cells #[.string gn, .bool gl, .int .i64 gm, .int .i64 gp, .string yk, .int .i64 yo] 78), cell_alloc hk9.1.2.2.1 (.cells #[.string gn, .bool gl, .int .i64 gm, .int .i64 gp, .string yk, .int .i64 yo] 78), cell_alloc hk9.1.2.2.2.1 (.cells #[.string gn, .bool gl, .int .i64 gm, .int .i64 gp, .string yk, .int .i64 yo] 78), cell_alloc hk9.1.2.2.2.2.1 (.cells #[.string gn, .bool gl, .int .i64 gm, .int .i64 gp, .string yk, .int .i64 yo] 78), cell_alloc hk9.1.2.2.2.2.2 (.cells #[.string gn, .bool gl, .int .i64 gm, .int .i64 gp, .string yk, .int .i64 yo] 78)⟩
                 refine hK.out _ _ hka (fun hHeld => ?_)
                 clear hK K
                 try simp only [Act.put, gA, gB, gC, gD, gE, gF]
                 refine wpAnyH_ready (rs := [12]) (by kernel_rfl) (by simp) ?_
                 refine AllReadyH.cons rfl (fun K hK => ?_) .nil
                 skip
                 refine step_append_lies _ (by rfl) _ _ _ (by rfl) (Ba + 1) 78 i0 (.agg #[.string ByteArray.empty, .bool false, .int .i64 0, .int .i64 0, .string ByteArray.empty, .int .i64 0]) 6 64 Try.underlying69 hi iz0 iz1 iz2 rfl (by omega) pv q zs (by rfl) (h9o.alloc _)
                  ⟨w9.heap.size, 0, none⟩ 1 1 [.string gn, .bool gl, .int .i64 gm, .int .i64 gp, .string yk, .int .i64 yo] (by rfl) (by rfl) (news_of w9 _ _) (by simp [Value.oneCell'])
                  (by omega) (by unfold maxLen; omega) (by omega) (by simp; omega) (w9.heap.size + 1) (by simp) ?_
                 intro gg cap w5 hown5 hgrow5 hat hlt5
                 have f5 : w5.cell? ⟨Ba, 0, none⟩ = some pv := hgrow5.cell (cell_alloc k9 _) hne
                 have k5 : _ ∧ _ ∧ _ ∧ _ ∧ _ ∧ _ := ⟨hgrow5.cell hka.1 (Ne.symm hn0), hgrow5.cell hka.2.1 (Ne.symm hn0), hgrow5.cell hka.2.2.1 (Ne.symm hn0), hgrow5.cell hka.2.2.2.1 (Ne.symm hn0), hgrow5.cell hka.2.2.2.2.1 (Ne.symm hn0), hgrow5.cell hka.2.2.2.2.2 (Ne.symm hn0)⟩
                 have r5 : w5.frozen? ⟨Ba, 0, none⟩ = false := (hgrow5.frozen_far ⟨Ba, 0, none⟩ (by simp; omega) hne).trans (free_of_block (heap_put _ _ d9))
                 refine hK.out _ _ k5 (fun hHeld => ?_)
                 clear hK K
                 try simp only [Act.put, gA, gB, gC, gD, gE, gF]
                 refine tk 13 ?_
                 try simp only [Act.put, gA, gB, gC, gD, gE, gF]
                 refine wpAnyH_ready (rs := [14]) (by kernel_rfl) (by simp) ?_
                 refine AllReadyH.cons rfl (fun K hK => ?_) .nil
                 try simp only [gA, gB, gC]
                 go_simp
                 refine hK.out _ _ ⟨(World.cell?_setCell_far _ _ _ _ nq).trans k5.1, (World.cell?_setCell_far _ _ _ _ nq).trans k5.2.1, (World.cell?_setCell_far _ _ _ _ nq).trans k5.2.2.1, (World.cell?_setCell_far _ _ _ _ nq).trans k5.2.2.2.1, (World.cell?_setCell_far _ _ _ _ nq).trans k5.2.2.2.2.1, (World.cell?_setCell_far _ _ _ _ nq).trans k5.2.2.2.2.2⟩ (fun hHeld => ?_)
                 clear hK K
                 try simp only [Act.put, gA, gB, gC, gD, gE, gF]
                 refine wpAnyH_done (by kernel_rfl) ?_ _
                 go_wp2_with fail
                 have hpu := hgp.box0 (j := 0) (x := ⟨⟨gn, gl, gm, gp⟩, yk, yo⟩) (hUU.trans ((h99.alloc h99.size (.cells #[.string gn, .bool gl, .int .i64 gm, .int .i64 gp, .string yk, .int .i64 yo] 78)).mono hUU.size)) (by rw [hlq]; exact hown5) hgrow5 (own_new hat (by simp)) rfl (fun _ => rfl) (Nat.lt_succ_self _) hab
                 rw [show (⟨⟨gn, gl, gm, gp⟩, yk, yo⟩ : Pt) = yu from HPc.out.symm, ← HNq.out] at hpu
                 have hbV := (hbu.trans ((hUU.trans ((h99.alloc h99.size _).mono hUU.size)).mono hbu.size)).trans (hpu.2.2.1 V.heap.size hBa)
                 have hvs5 := (hpu.2.2.1 Ba (Nat.le_refl _)).size
                 go_roundw
                 case rel => exact ⟨q + 1, _, _, by omega, by omega, by simp, hbV, by simp at hvs5 ⊢; omega, hpu.2.1, hpu.1⟩
                 case measure => simp [intOf]; omega
               refine AllReadyH.cons rfl (fun K hK => ?_) .nil
               try simp only [gA, gB, gC]
               go_simp
               have hka : _ ∧ _ ∧ _ ∧ _ ∧ _ ∧ _ := ⟨cell_alloc hk9.1.1 (.cells #[.string gn, .bool gl, .int .i64 gm, .int .i64 gp, .string yk, .int .i64 yo] 78), cell_alloc hk9.1.2.1 (.cells #[.string gn, .bool gl, .int .i64 gm, .int .i64 gp, .string yk, .int .i64 yo] 78), cell_alloc hk9.1.2.2.1 (.cells #[.string gn, .bool gl, .int .i64 gm, .int .i64 gp, .string yk, .int .i64 yo] 78), cell_alloc hk9.1.2.2.2.1 (.cells #[.string gn, .bool gl, .int .i64 gm, .int .i64 gp, .string yk, .int .i64 yo] 78), cell_alloc hk9.1.2.2.2.2.1 (.cells #[.string gn, .bool gl, .int .i64 gm, .int .i64 gp, .string yk, .int .i64 yo] 78), cell_alloc hk9.1.2.2.2.2.2 (.cells #[.string gn, .bool gl, .int .i64 gm, .int .i64 gp, .string yk, .int .i64 yo] 78)⟩
               refine hK.out _ _ hka (fun hHeld => ?_)
               clear hK K
               try simp only [Act.put, gA, gB, gC, gD, gE, gF]
               refine wpAnyH_ready (rs := [1]) (by kernel_rfl) (by simp) ?_
               refine AllReadyH.cons rfl (fun K hK => ?_) .nil
               try simp only [gA, gB, gC]
               go_simp
               refine hK.out _ _ (by assumption) (fun hHeld => ?_)
               clear hK K
               try simp only [Act.put, gA, gB, gC, gD, gE, gF]
               refine wpAnyH_ready (rs := [12]) (by kernel_rfl) (by simp) ?_
               refine AllReadyH.cons rfl (fun K hK => ?_) .nil
               skip
               refine step_append_lies _ (by rfl) _ _ _ (by rfl) (Ba + 1) 78 i0 (.agg #[.string ByteArray.empty, .bool false, .int .i64 0, .int .i64 0, .string ByteArray.empty, .int .i64 0]) 6 64 Try.underlying69 hi iz0 iz1 iz2 rfl (by omega) pv q zs (by rfl) (h9o.alloc _)
                ⟨w9.heap.size, 0, none⟩ 1 1 [.string gn, .bool gl, .int .i64 gm, .int .i64 gp, .string yk, .int .i64 yo] (by rfl) (by rfl) (news_of w9 _ _) (by simp [Value.oneCell'])
                (by omega) (by unfold maxLen; omega) (by omega) (by simp; omega) (w9.heap.size + 1) (by simp) ?_
               intro gg cap w5 hown5 hgrow5 hat hlt5
               have f5 : w5.cell? ⟨Ba, 0, none⟩ = some pv := hgrow5.cell (cell_alloc k9 _) hne
               have k5 : _ ∧ _ ∧ _ ∧ _ ∧ _ ∧ _ := ⟨hgrow5.cell hka.1 (Ne.symm hn0), hgrow5.cell hka.2.1 (Ne.symm hn0), hgrow5.cell hka.2.2.1 (Ne.symm hn0), hgrow5.cell hka.2.2.2.1 (Ne.symm hn0), hgrow5.cell hka.2.2.2.2.1 (Ne.symm hn0), hgrow5.cell hka.2.2.2.2.2 (Ne.symm hn0)⟩
               have r5 : w5.frozen? ⟨Ba, 0, none⟩ = false := (hgrow5.frozen_far ⟨Ba, 0, none⟩ (by simp; omega) hne).trans (free_of_block (heap_put _ _ d9))
               refine hK.out _ _ k5 (fun hHeld => ?_)
               clear hK K
               try simp only [Act.put, gA, gB, gC, gD, gE, gF]
               refine tk 13 ?_
               try simp only [Act.put, gA, gB, gC, gD, gE, gF]
               refine wpAnyH_ready (rs := [14]) (by kernel_rfl) (by simp) ?_
               refine AllReadyH.cons rfl (fun K hK => ?_) .nil
               try simp only [gA, gB, gC]
               go_simp
               refine hK.out _ _ ⟨(World.cell?_setCell_far _ _ _ _ nq).trans k5.1, (World.cell?_setCell_far _ _ _ _ nq).trans k5.2.1, (World.cell?_setCell_far _ _ _ _ nq).trans k5.2.2.1, (World.cell?_setCell_far _ _ _ _ nq).trans k5.2.2.2.1, (World.cell?_setCell_far _ _ _ _ nq).trans k5.2.2.2.2.1, (World.cell?_setCell_far _ _ _ _ nq).trans k5.2.2.2.2.2⟩ (fun hHeld => ?_)
               clear hK K
               try simp only [Act.put, gA, gB, gC, gD, gE, gF]
               refine wpAnyH_done (by kernel_rfl) ?_ _
               go_wp2_with fail
               have hpu := hgp.box0 (j := 0) (x := ⟨⟨gn, gl, gm, gp⟩, yk, yo⟩) (hUU.trans ((h99.alloc h99.size (.cells #[.string gn, .bool gl, .int .i64 gm, .int .i64 gp, .string yk, .int .i64 yo] 78)).mono hUU.size)) (by rw [hlq]; exact hown5) hgrow5 (own_new hat (by simp)) rfl (fun _ => rfl) (Nat.lt_succ_self _) hab
               rw [show (⟨⟨gn, gl, gm, gp⟩, yk, yo⟩ : Pt) = yu from HPc.out.symm, ← HNq.out] at hpu
               have hbV := (hbu.trans ((hUU.trans ((h99.alloc h99.size _).mono hUU.size)).mono hbu.size)).trans (hpu.2.2.1 V.heap.size hBa)
               have hvs5 := (hpu.2.2.1 Ba (Nat.le_refl _)).size
               go_roundw
               case rel => exact ⟨q + 1, _, _, by omega, by omega, by simp, hbV, by simp at hvs5 ⊢; omega, hpu.2.1, hpu.1⟩
               case measure => simp [intOf]; omega
            · have hlast : (pp.take q).map Pt.cut = (pp.take 6).map Pt.cut := cut_done Pt.cut hq5 (by have := hnp.out; omega) (by have := hnp.out; omega)
              rw [hlast] at hgp
              have hF2 := hgp.firm (by omega)
              obtain ⟨i0, hi, iz0, iz1, iz2⟩ := info_parts Try.infoAlt
              have hGv := hg.below hbu
              have hown := hGv.own
              rw [hll] at hown
              have hcb := (hbu.block W.heap.size (by omega)).trans hdb
              have e1 : U.cell? ⟨W.heap.size, 1, none⟩ = some av := cell_of_row _ _ 1 _ _ _ hcb
              have d0 : U.cell? ⟨Ba, 0, none⟩ = some pv := cell_of_row _ _ 0 _ _ _ hab
              have d1 : U.cell? ⟨Ba, 1, none⟩ = some (.string zn) := cell_of_row _ _ 1 _ _ _ hab
              have d2 : U.cell? ⟨Ba, 2, none⟩ = some (.bool zl) := cell_of_row _ _ 2 _ _ _ hab
              have d3 : U.cell? ⟨Ba, 3, none⟩ = some (.int .i64 zm) := cell_of_row _ _ 3 _ _ _ hab
              have d4 : U.cell? ⟨Ba, 4, none⟩ = some (.int .i64 zp) := cell_of_row _ _ 4 _ _ _ hab
              have d5 : U.cell? ⟨Ba, 5, none⟩ = some (.int .i64 po2) := cell_of_row _ _ 5 _ _ _ hab
              have hne : some W.heap.size ≠ av.ownBlock := fun h => by have := own_base hown (Nat.le_refl _) _ h.symm; omega
              have hsv1 := slice_one hgp.own
              have ec := cell_alloc e1 (.cells #[pv, .string zn, .bool zl, .int .i64 zm, .int .i64 zp, .int .i64 po2] 71)
              have hfr := free_of_block (b := W.heap.size) (j := 1) (heap_put _ (.cells #[pv, .string zn, .bool zl, .int .i64 zm, .int .i64 zp, .int .i64 po2] 71) hcb)
              have hdl : ∀ k, av.ownBlock = some k → k < V.heap.size := fun k hk => (hg.lt k (.inr hk))
              have hsl : ∀ b, (False ∨ pv.ownBlock = some b) → Ba + 1 ≤ b := fun b hb => hb.elim (fun h => h.elim) (fun h => own_base hgp.own (Nat.le_refl _) b h)
              have hgA : ∀ (gg cap : Nat) (w5 : World), w5.ownsRow (W.heap.size + 1) 71 6 (.slice (some ⟨gg, 0, none⟩) (j + 1) cap) (j + 1) (ys ++ [pv, .string zn, .bool zl, .int .i64 zm, .int .i64 zp, .int .i64 po2]) → (U.alloc (.cells #[pv, .string zn, .bool zl, .int .i64 zm, .int .i64 zp, .int .i64 po2] 71)).grownBy w5 av.ownBlock → (av.ownBlock = some gg ∨ gg = U.heap.size + 1) → _ := fun gg cap w5 hown5 hgrow5 hat => GrowL.box (j := 1) hg (hbu.alloc hbu.size (.cells #[pv, .string zn, .bool zl, .int .i64 zm, .int .i64 zp, .int .i64 po2] 71)) (by rw [hll]; exact hown5) hgrow5 (own_new hat (by simp)) rfl (x := uc)
               (Firm.imp (hF2.below ((Below.refl U.heap.size U).alloc (Nat.le_refl _) (.cells #[pv, .string zn, .bool zl, .int .i64 zm, .int .i64 zp, .int .i64 po2] 71))) (fun w' hw' => by rw [HAc.out]; exact ⟨pv, rfl, hw'⟩))
               (fun k hk hS => by have := hsl k hS; have := hdl k hk; omega) (Nat.lt_succ_self _) hdb (fun b hb => by rcases hb with hb | hb; (have := HS2.out b hb; omega); (have := hsl b hb; omega))
              have HGA := Lib.hid hgA
              have HSL := Lib.hid hsl
              clear hgA hsl hdl hF2 hGv hpx HPI
              by_cases hg1 : q < np
              · have i5 : ¬ ((q : Int) < 6) := by omega
                have q1 : (q : Int) < (np : Int) := by omega
                go_wp2_with (first | (refine wpList_append_lies _ (by rfl) _ _ _ (by rfl) (W.heap.size + 1) 71 i0 (.agg #[.slice none 0 0, .string ByteArray.empty, .bool false, .int .i64 0, .int .i64 0, .int .i64 0]) 6 72 Try.underlying72 hi iz0 iz1 iz2 rfl (by omega) av j ys (by rfl) (hown.alloc _) ⟨U.heap.size, 0, none⟩ 1 1 [pv, .string zn, .bool zl, .int .i64 zm, .int .i64 zp, .int .i64 po2] (by rfl) (by rfl) (news_of U _ _) (List.forall_mem_cons.2 ⟨hsv1, List.forall_mem_cons.2 ⟨rfl, List.forall_mem_cons.2 ⟨rfl, List.forall_mem_cons.2 ⟨rfl, List.forall_mem_cons.2 ⟨rfl, List.forall_mem_cons.2 ⟨rfl, by simp⟩⟩⟩⟩⟩⟩) (by omega) (by unfold maxLen; omega) (by omega) (by simp; omega) (U.heap.size + 1) (by simp) ?_; intro gg cap w5 hown5 hgrow5 hat hlt5; have hga := HGA.out gg cap w5 hown5 hgrow5 hat; have f5 := hgrow5.cell ec hne; have r5 := (hgrow5.frozen_far ⟨W.heap.size, 1, none⟩ (by simp; omega) hne).trans hfr))
                rw [← HNj.out] at hga
                have hbV2 := (hbv.trans ((hbu.alloc hbu.size (.cells #[pv, .string zn, .bool zl, .int .i64 zm, .int .i64 zp, .int .i64 po2] 71)).mono hVs)).trans (hga.2.2.1 W.heap.size (Nat.le_refl _))
                have hvs5 := (hga.2.2.1 W.heap.size (Nat.le_refl _)).size
                go_roundw
                case rel => exact ⟨j + 1, _, _, _, by omega, by omega, by simp, hbV2, by simp at hvs5 ⊢; omega, hga.2.1, hga.1, Lib.hid (fun b hb => hb.elim (HS2.out b) (fun h => by have := HSL.out b h; omega))⟩
                case measure => simp [intOf]; omega
              · have q1 : ¬ ((q : Int) < (np : Int)) := by omega
                go_wp2_with (first | (refine wpList_append_lies _ (by rfl) _ _ _ (by rfl) (W.heap.size + 1) 71 i0 (.agg #[.slice none 0 0, .string ByteArray.empty, .bool false, .int .i64 0, .int .i64 0, .int .i64 0]) 6 72 Try.underlying72 hi iz0 iz1 iz2 rfl (by omega) av j ys (by rfl) (hown.alloc _) ⟨U.heap.size, 0, none⟩ 1 1 [pv, .string zn, .bool zl, .int .i64 zm, .int .i64 zp, .int .i64 po2] (by rfl) (by rfl) (news_of U _ _) (List.forall_mem_cons.2 ⟨hsv1, List.forall_mem_cons.2 ⟨rfl, List.forall_mem_cons.2 ⟨rfl, List.forall_mem_cons.2 ⟨rfl, List.forall_mem_cons.2 ⟨rfl, List.forall_mem_cons.2 ⟨rfl, by simp⟩⟩⟩⟩⟩⟩) (by omega) (by unfold maxLen; omega) (by omega) (by simp; omega) (U.heap.size + 1) (by simp) ?_; intro gg cap w5 hown5 hgrow5 hat hlt5; have hga := HGA.out gg cap w5 hown5 hgrow5 hat; have f5 := hgrow5.cell ec hne; have r5 := (hgrow5.frozen_far ⟨W.heap.size, 1, none⟩ (by simp; omega) hne).trans hfr))
                rw [← HNj.out] at hga
                have hbV2 := (hbv.trans ((hbu.alloc hbu.size (.cells #[pv, .string zn, .bool zl, .int .i64 zm, .int .i64 zp, .int .i64 po2] 71)).mono hVs)).trans (hga.2.2.1 W.heap.size (Nat.le_refl _))
                have hvs5 := (hga.2.2.1 W.heap.size (Nat.le_refl _)).size
                go_roundw
                case rel => exact ⟨j + 1, _, _, _, by omega, by omega, by simp, hbV2, by simp at hvs5 ⊢; omega, hga.2.1, hga.1, Lib.hid (fun b hb => hb.elim (HS2.out b) (fun h => by have := HSL.out b h; omega))⟩
                case measure => simp [intOf]; omega
        · have hlast : (al.take j).map Al.cut = (al.take 5).map Al.cut := cut_done Al.cut hj4 (by have := hnx.out; omega) (by have := hnx.out; omega)
          rw [hlast] at hg
          have hF2 := hg.firm (by omega)
          obtain ⟨i0, hi, iz0, iz1, iz2⟩ := info_parts Try.infoRule
          have hGv := hG.below hbv
          have hown := hGv.own
          rw [hlk] at hown
          have hcl := hM.lt
          have hVs := hbv.size
          have hcb := (hbv.block (w.heap.size + 2) hcl).trans hM.out
          have e1 : V.cell? ⟨w.heap.size + 2, 2, none⟩ = some rv := cell_of_row _ _ 2 _ _ _ hcb
          have d0 : V.cell? ⟨W.heap.size, 0, none⟩ = some (.string lc) := cell_of_row _ _ 0 _ _ _ hdb
          have d1 : V.cell? ⟨W.heap.size, 1, none⟩ = some av := cell_of_row _ _ 1 _ _ _ hdb
          have d2 : V.cell? ⟨W.heap.size, 2, none⟩ = some (.int .i64 po) := cell_of_row _ _ 2 _ _ _ hdb
          have hne : some (w.heap.size + 2) ≠ rv.ownBlock := fun h => by have := own_base hown (Nat.le_refl _) _ h.symm; omega
          have hsv1 := slice_one hg.own
          have ec := cell_alloc e1 (.cells #[.string lc, av, .int .i64 po] 74)
          have hfr := free_of_block (b := w.heap.size + 2) (j := 2) (heap_put _ (.cells #[.string lc, av, .int .i64 po] 74) hcb)
          have hdl : ∀ k, rv.ownBlock = some k → k < W.heap.size := fun k hk => (hG.lt k (.inr hk))
          have hsl : ∀ b, (S2 b ∨ av.ownBlock = some b) → W.heap.size + 1 ≤ b := fun b hb => hb.elim (HS2.out b) (fun h => own_base hg.own (Nat.le_refl _) b h)
          have hgA : ∀ (gg cap : Nat) (w5 : World), w5.ownsRow W1.heap.size 74 3 (.slice (some ⟨gg, 0, none⟩) (k + 1) cap) (k + 1) (xs ++ [.string lc, av, .int .i64 po]) → (V.alloc (.cells #[.string lc, av, .int .i64 po] 74)).grownBy w5 rv.ownBlock → (rv.ownBlock = some gg ∨ gg = V.heap.size + 1) → _ := fun gg cap w5 hown5 hgrow5 hat => GrowL.box (j := 2) hG (hbv.alloc hbv.size (.cells #[.string lc, av, .int .i64 po] 74)) (by rw [hlk]; exact hown5) hgrow5 (own_new hat (by simp)) rfl (x := xc)
           (Firm.imp (hF2.below ((Below.refl V.heap.size V).alloc (Nat.le_refl _) (.cells #[.string lc, av, .int .i64 po] 74))) (fun w' hw' => by rw [HDc.out]; exact ⟨av, rfl, hw'⟩))
           (fun k hk hS => by have := hsl k hS; have := hdl k hk; omega) hW1 hM.out (fun b hb => by rcases hb with hb | hb; (have := HS.out b hb; omega); (have := hsl b hb; omega))
          have HGA := Lib.hid hgA
          have HSL := Lib.hid hsl
          clear hgA hsl hdl hF2 hGv hxx HAI
          by_cases hg1 : j < nx
          · have i5 : ¬ ((j : Int) < 5) := by omega
            have j1 : (j : Int) < (nx : Int) := by omega
            go_wp2_with (first | (refine wpList_append_lies _ (by rfl) _ _ _ (by rfl) W1.heap.size 74 i0 (.agg #[.string ByteArray.empty, .slice none 0 0, .int .i64 0]) 3 48 Try.underlying23 hi iz0 iz1 iz2 rfl (by omega) rv k xs (by rfl) (hown.alloc _) ⟨V.heap.size, 0, none⟩ 1 1 [.string lc, av, .int .i64 po] (by rfl) (by rfl) (news_of V _ _) (List.forall_mem_cons.2 ⟨rfl, List.forall_mem_cons.2 ⟨hsv1, List.forall_mem_cons.2 ⟨rfl, by simp⟩⟩⟩) (by omega) (by unfold maxLen; omega) (by omega) (by simp; omega) (V.heap.size + 1) (by simp) ?_; intro gg cap w5 hown5 hgrow5 hat hlt5; have hga := HGA.out gg cap w5 hown5 hgrow5 hat; have f5 := hgrow5.cell ec hne; have r5 := (hgrow5.frozen_far ⟨w.heap.size + 2, 2, none⟩ (by simp; omega) hne).trans hfr))
            rw [← HN.out] at hga
            have hF3 := hF.keep (w' := w5.setCell ⟨w.heap.size + 2, 2, none⟩ (.slice (some ⟨gg, 0, none⟩) (k + 1) cap)) (fun b hb => (hga.2.2.2 b (by simp; have := HW1.out b hb; omega) (by have := HW1.out b hb; omega) (by have := HW1.out b hb; omega)).trans (((hbv.alloc hbv.size (.cells #[.string lc, av, .int .i64 po] 74)).block b (by have := HW1.out b hb; omega))))
            have hvs5 := (hga.2.2.1 _ (Nat.le_refl _)).size
            go_roundw
            case rel => exact ⟨k + 1, _, _, _, by omega, by omega, by simp, hM.step (hbv.alloc hbv.size (.cells #[.string lc, av, .int .i64 po] 74)) (hga.2.2.1 _ (Nat.le_refl _)) hga.2.1, hF3, hga.1, Lib.hid (fun b hb => hb.elim (HS.out b) (fun h => by have := HSL.out b h; omega)), by simp at hvs5 ⊢; omega⟩
            case measure => simp [intOf]; omega
          · have j1 : ¬ ((j : Int) < (nx : Int)) := by omega
            go_wp2_with (first | (refine wpList_append_lies _ (by rfl) _ _ _ (by rfl) W1.heap.size 74 i0 (.agg #[.string ByteArray.empty, .slice none 0 0, .int .i64 0]) 3 48 Try.underlying23 hi iz0 iz1 iz2 rfl (by omega) rv k xs (by rfl) (hown.alloc _) ⟨V.heap.size, 0, none⟩ 1 1 [.string lc, av, .int .i64 po] (by rfl) (by rfl) (news_of V _ _) (List.forall_mem_cons.2 ⟨rfl, List.forall_mem_cons.2 ⟨hsv1, List.forall_mem_cons.2 ⟨rfl, by simp⟩⟩⟩) (by omega) (by unfold maxLen; omega) (by omega) (by simp; omega) (V.heap.size + 1) (by simp) ?_; intro gg cap w5 hown5 hgrow5 hat hlt5; have hga := HGA.out gg cap w5 hown5 hgrow5 hat; have f5 := hgrow5.cell ec hne; have r5 := (hgrow5.frozen_far ⟨w.heap.size + 2, 2, none⟩ (by simp; omega) hne).trans hfr))
            rw [← HN.out] at hga
            have hF3 := hF.keep (w' := w5.setCell ⟨w.heap.size + 2, 2, none⟩ (.slice (some ⟨gg, 0, none⟩) (k + 1) cap)) (fun b hb => (hga.2.2.2 b (by simp; have := HW1.out b hb; omega) (by have := HW1.out b hb; omega) (by have := HW1.out b hb; omega)).trans (((hbv.alloc hbv.size (.cells #[.string lc, av, .int .i64 po] 74)).block b (by have := HW1.out b hb; omega))))
            have hvs5 := (hga.2.2.1 _ (Nat.le_refl _)).size
            go_roundw
            case rel => exact ⟨k + 1, _, _, _, by omega, by omega, by simp, hM.step (hbv.alloc hbv.size (.cells #[.string lc, av, .int .i64 po] 74)) (hga.2.2.1 _ (Nat.le_refl _)) hga.2.1, hF3, hga.1, Lib.hid (fun b hb => hb.elim (HS.out b) (fun h => by have := HSL.out b h; omega)), by simp at hvs5 ⊢; omega⟩
            case measure => simp [intOf]; omega
    · have hlast : (rs.take k).map Rl.cut = (rs.take 6).map Rl.cut := cut_done Rl.cut hk5 (by have := hn2.out; omega) (by have := hn2.out; omega)
      rw [hlast] at hG
      have hcl := hM.lt
      obtain ⟨a8, c8, e8, _⟩ := hF.self
      obtain ⟨a9, c9, e9, _⟩ := hG.list (by omega)
      generalize ((ds.take 8).map Dc.cut).length = m8 at e8
      generalize ((rs.take 6).map Rl.cut).length = m9 at e9
      subst e8
      subst e9
      have e0 : W.cell? ⟨w.heap.size + 2, 0, none⟩ = some (.string cp) := cell_of_row _ _ 0 _ _ _ hM.out
      have e1 : W.cell? ⟨w.heap.size + 2, 1, none⟩ = some (.slice a8 m8 c8) := cell_of_row _ _ 1 _ _ _ hM.out
      have e2 : W.cell? ⟨w.heap.size + 2, 2, none⟩ = some (.slice a9 m9 c9) := cell_of_row _ _ 2 _ _ _ hM.out
      have e3 : W.cell? ⟨w.heap.size + 2, 3, none⟩ = some (.string ct) := cell_of_row _ _ 3 _ _ _ hM.out
      have z0 : W.cell? ⟨w.heap.size + 1, 0, none⟩ = some (.string ⟨#[]⟩) := cell_of_row _ _ 0 _ _ _ hM.res
      have z1 : W.cell? ⟨w.heap.size + 1, 1, none⟩ = some (.slice none 0 0) := cell_of_row _ _ 1 _ _ _ hM.res
      have z2 : W.cell? ⟨w.heap.size + 1, 2, none⟩ = some (.slice none 0 0) := cell_of_row _ _ 2 _ _ _ hM.res
      have z3 : W.cell? ⟨w.heap.size + 1, 3, none⟩ = some (.string ⟨#[]⟩) := cell_of_row _ _ 3 _ _ _ hM.res
      have y0 := free_of_block (j := 0) hM.res
      have y1 := free_of_block (j := 1) hM.res
      have y2 := free_of_block (j := 2) hM.res
      have y3 := free_of_block (j := 3) hM.res
      have hrow := set4_row hM.res (.string cp) (.slice a8 m8 c8) (.slice a9 m9 c9) (.string ct)
      have hbe := set4_below hM.below (q := w.heap.size + 1) (by omega) (.string cp) (.slice a8 m8 c8) (.slice a9 m9 c9) (.string ct)
      have hDl := hF.keep (w' := ((((W.setCell ⟨w.heap.size + 1, 0, none⟩ (.string cp)).setCell ⟨w.heap.size + 1, 1, none⟩ (.slice a8 m8 c8)).setCell ⟨w.heap.size + 1, 2, none⟩ (.slice a9 m9 c9)).setCell ⟨w.heap.size + 1, 3, none⟩ (.string ct))) (fun b hb => set4_other (by have := HW1.out b hb; omega) _ _ _ _)
      have hgb : ∀ b, (S b ∨ (Value.slice a9 m9 c9).ownBlock = some b) → W1.heap.size ≤ b := fun b hb => hb.elim (HS.out b) (fun h => own_base hG.own (Nat.le_refl _) b h)
      have hRl := (hG.firm (by omega)).keep (w' := ((((W.setCell ⟨w.heap.size + 1, 0, none⟩ (.string cp)).setCell ⟨w.heap.size + 1, 1, none⟩ (.slice a8 m8 c8)).setCell ⟨w.heap.size + 1, 2, none⟩ (.slice a9 m9 c9)).setCell ⟨w.heap.size + 1, 3, none⟩ (.string ct))) (fun b hb => set4_other (by have := hgb b hb; omega) _ _ _ _)
      have hso : Firm (fun b => Sd b ∨ (S b ∨ (Value.slice a9 m9 c9).ownBlock = some b)) ((((W.setCell ⟨w.heap.size + 1, 0, none⟩ (.string cp)).setCell ⟨w.heap.size + 1, 1, none⟩ (.slice a8 m8 c8)).setCell ⟨w.heap.size + 1, 2, none⟩ (.slice a9 m9 c9)).setCell ⟨w.heap.size + 1, 3, none⟩ (.string ct)) (fun X => SoV X (.agg #[.string cp, .slice a8 m8 c8, .slice a9 m9 c9, .string ct]) R) := (hDl.and hRl).imp (fun X hX => by
       rw [HR.out]
       exact ⟨_, _, rfl, hX.1, hX.2⟩)
      have hbd : ∀ b, (Sd b ∨ (S b ∨ (Value.slice a9 m9 c9).ownBlock = some b)) → w.heap.size ≤ b := fun b hb => hb.elim (fun h => by have := HW1.out b h; omega) (fun h => by have := hgb b h; omega)
      have hres : SoGoes R w (.returned (.agg #[.string cp, .slice a8 m8 c8, .slice a9 m9 c9, .string ct])) ((((W.setCell ⟨w.heap.size + 1, 0, none⟩ (.string cp)).setCell ⟨w.heap.size + 1, 1, none⟩ (.slice a8 m8 c8)).setCell ⟨w.heap.size + 1, 2, none⟩ (.slice a9 m9 c9)).setCell ⟨w.heap.size + 1, 3, none⟩ (.string ct)) := ⟨.agg #[.string cp, .slice a8 m8 c8, .slice a9 m9 c9, .string ct], _, rfl, hso, hbd, hbe⟩
      have HRes := Lib.hid hres
      clear hres hso hbd hgb hDl hRl hlast hG hF HS hx2 HI3 HW1
      by_cases hg1 : k < n2
      · have i6 : ¬ ((k : Int) < 6) := by omega
        have i1 : (k : Int) < (n2 : Int) := by omega
        go_wp2_with fail
        exact bodyPost_ret (v := .agg #[.string cp, .slice a8 m8 c8, .slice a9 m9 c9, .string ct]) (results_cell_row rfl _ _ (w.heap.size + 1) 25 #[.string cp, .slice a8 m8 c8, .slice a9 m9 c9, .string ct] (0, 0) _ rfl hrow Try.underlying25 rfl soInfo) rfl HRes.out
      · have i1 : ¬ ((k : Int) < (n2 : Int)) := by omega
        go_wp2_with fail
        exact bodyPost_ret (v := .agg #[.string cp, .slice a8 m8 c8, .slice a9 m9 c9, .string ct]) (results_cell_row rfl _ _ (w.heap.size + 1) 25 #[.string cp, .slice a8 m8 c8, .slice a9 m9 c9, .string ct] (0, 0) _ rfl hrow Try.underlying25 rfl soInfo) rfl HRes.out
end
end Go.Proofs.Ytkgbifbbpmdpgaa
