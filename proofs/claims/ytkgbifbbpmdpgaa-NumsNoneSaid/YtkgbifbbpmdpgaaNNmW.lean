/- What the document fixes of numbers. -/
import Derived.Test.YtkgbifbbpmdpgaaNNmF
import Derived.Test.YtkgbifbbpmdpgaaNPr1
import Derived.Deep.DeepCutAuto
set_option linter.unusedVariables false
set_option linter.unusedSimpArgs false
namespace Go.Proofs.Ytkgbifbbpmdpgaa

open Go.RowKit
theorem one_list {α : Type} {R : World → List Value → α → Prop} {w : World} {B size : Nat} {cs : Array Value} {T : TypeId} {x : α} (h : w.heap[B]? = some (.cells cs T (0, 0))) (hs : cs.size = size) (hR : R w cs.toList x) : ListV size R w (.slice (some ⟨B, 0, none⟩) 1 1) [x] := by
 refine ⟨_, 1, rfl, Nat.le_refl _, by omega, fun e => (by cases e), fun i y hy => ?_⟩
 obtain rfl : i = 0 := by have := (List.getElem?_eq_some_iff.1 hy).1; simp at this; omega
 obtain rfl : x = y := by simpa using hy
 refine ⟨B, 0, cs.toList, rfl, by simpa using hs, hR, fun j hj => ?_⟩
 rw [show 0 + 0 * size + j = j by omega, cell_of_row w B j cs T (0, 0) h, List.getD_eq_getElem?_getD, Array.getElem?_toList, Array.getElem?_eq_getElem (by omega)]; rfl
theorem two_list {α : Type} {R : World → List Value → α → Prop} {w : World} {B size : Nat} {cs : Array Value} {T : TypeId} {x y : α} (h : w.heap[B]? = some (.cells cs T (0, 0))) (hs : cs.size = 2 * size) (hx : R w (cs.toList.take size) x) (hy : R w (cs.toList.drop size) y) : ListV size R w (.slice (some ⟨B, 0, none⟩) 2 2) [x, y] := by
 have hl : cs.toList.length = 2 * size := by simpa using hs
 refine ⟨_, 2, rfl, Nat.le_refl _, by omega, fun e => (by cases e), fun i z hz => ?_⟩
 have hi : i < 2 := by have := (List.getElem?_eq_some_iff.1 hz).1; simpa using this
 match i, hi with
 | 0, _ =>
   obtain rfl : x = z := by simpa using hz
   refine ⟨B, 0, _, rfl, by simp [hs]; omega, hx, fun j hj => ?_⟩
   rw [show 0 + 0 * size + j = j by omega, cell_of_row w B j cs T (0, 0) h, List.getD_eq_getElem?_getD, List.getElem?_take, if_pos hj, Array.getElem?_toList, Array.getElem?_eq_getElem (by omega)]; rfl
 | 1, _ =>
   obtain rfl : y = z := by simpa using hz
   refine ⟨B, 0, _, rfl, by rw [List.length_drop, hl]; omega, hy, fun j hj => ?_⟩
   rw [show 0 + 1 * size + j = size + j by omega, cell_of_row w B (size + j) cs T (0, 0) h, List.getD_eq_getElem?_getD, List.getElem?_drop, Array.getElem?_toList, Array.getElem?_eq_getElem (by omega)]; rfl
def so24 : So := ⟨⟨#[]⟩, [⟨1, ⟨#[]⟩, [⟨⟨#[65]⟩, false, 0, 0⟩, ⟨⟨#[43]⟩, true, 0, 0⟩], 0⟩], [⟨⟨#[115]⟩, [⟨[], ⟨⟨#[]⟩, false, 0, 0⟩, 0⟩], 0⟩], ⟨#[]⟩⟩
theorem so24_ok : okOf so24 = true := by decide +kernel
theorem so24_nums : pairsTo (gmOf so24).toks (gmOf so24).toks.length = [(57346, 3), (43, 4)] := by decide +kernel
theorem so24_is : IsNums (gmOf so24).toks [(43, 4), (57346, 3)] := by
 refine isNums_of (nums_ok so24_ok) (by rw [so24_nums]; exact List.Perm.swap _ _ _) (fun i j hij hj => ?_)
 have hj2 : j < 2 := hj
 obtain rfl : j = 1 := by omega
 obtain rfl : i = 0 := by omega
 decide
theorem so24_small : SoSmall so24 := by
 refine ⟨by decide, by decide, fun d hd => ?_, fun r hr => ?_⟩
 · obtain rfl : d = _ := by simpa [so24] using hd
   refine ⟨by decide, fun x hx => ?_⟩
   rcases (by simpa using hx : x = _ ∨ x = _) with rfl | rfl <;> (show _ ≤ _; decide)
 · obtain rfl : r = _ := by simpa [so24] using hr
   refine ⟨by decide, fun a ha => ?_⟩
   obtain rfl : a = _ := by simpa using ha
   exact ⟨fun p hp => by (cases hp), by show _ ≤ _; decide⟩
theorem so24_b : SoB so24 := by
 refine ⟨by decide, fun d hd => ?_, by decide, fun r hr => ?_⟩
 · obtain rfl : d = _ := by simpa [so24] using hd
   decide
 · obtain rfl : r = _ := by simpa [so24] using hr
   refine ⟨by decide, fun a ha => ?_⟩
   obtain rfl : a = _ := by simpa using ha
   decide
theorem so24_laid {W : World} {b1 b2 b3 b4 : Nat}
  (h1 : W.heap[b1]? = some (.cells #[.string ⟨#[65]⟩, .bool false, .int .i64 0, .int .i64 0, .string ⟨#[43]⟩, .bool true, .int .i64 0, .int .i64 0] 68 (0, 0)))
  (h2 : W.heap[b2]? = some (.cells #[.int .i64 1, .string ⟨#[]⟩, .slice (some ⟨b1, 0, none⟩) 2 2, .int .i64 0] 64 (0, 0)))
  (h3 : W.heap[b3]? = some (.cells #[.slice none 0 0, .string ⟨#[]⟩, .bool false, .int .i64 0, .int .i64 0, .int .i64 0] 71 (0, 0)))
  (h4 : W.heap[b4]? = some (.cells #[.string ⟨#[115]⟩, .slice (some ⟨b3, 0, none⟩) 1 1, .int .i64 0] 74 (0, 0))) :
  SoV W (.agg #[.string ⟨#[]⟩, .slice (some ⟨b2, 0, none⟩) 1 1, .slice (some ⟨b4, 0, none⟩) 1 1, .string ⟨#[]⟩]) so24 :=
 ⟨_, _, rfl, one_list h2 rfl ⟨_, rfl, two_list h1 rfl rfl rfl⟩, one_list h4 rfl ⟨_, rfl, one_list h3 rfl ⟨_, rfl, ListV.nil _ _ _⟩⟩⟩
set_option maxRecDepth 100000 in
set_option maxHeartbeats 8000000 in
theorem numWakes_any (w : World) : Calls Try.prog 21 #[] w fun e w' => e = .returned (.bool true) ∧ Below w.heap.size w w' := by
 have s1 : (w.alloc (.cells #[.string ⟨#[65]⟩, .bool false, .int .i64 0, .int .i64 0, .string ⟨#[43]⟩, .bool true, .int .i64 0, .int .i64 0] 68)).heap.size = w.heap.size + 1 := by simp
 have s2 : ((w.alloc (.cells #[.string ⟨#[65]⟩, .bool false, .int .i64 0, .int .i64 0, .string ⟨#[43]⟩, .bool true, .int .i64 0, .int .i64 0] 68)).alloc (.cells #[.int .i64 1, .string ⟨#[]⟩, .slice (some ⟨w.heap.size, 0, none⟩) 2 2, .int .i64 0] 64)).heap.size = w.heap.size + 1 + 1 := by simp
 have s3 : (((w.alloc (.cells #[.string ⟨#[65]⟩, .bool false, .int .i64 0, .int .i64 0, .string ⟨#[43]⟩, .bool true, .int .i64 0, .int .i64 0] 68)).alloc (.cells #[.int .i64 1, .string ⟨#[]⟩, .slice (some ⟨w.heap.size, 0, none⟩) 2 2, .int .i64 0] 64)).alloc (.cells #[.slice none 0 0, .string ⟨#[]⟩, .bool false, .int .i64 0, .int .i64 0, .int .i64 0] 71)).heap.size = w.heap.size + 1 + 1 + 1 := by simp
 have s4 : ((((w.alloc (.cells #[.string ⟨#[65]⟩, .bool false, .int .i64 0, .int .i64 0, .string ⟨#[43]⟩, .bool true, .int .i64 0, .int .i64 0] 68)).alloc (.cells #[.int .i64 1, .string ⟨#[]⟩, .slice (some ⟨w.heap.size, 0, none⟩) 2 2, .int .i64 0] 64)).alloc (.cells #[.slice none 0 0, .string ⟨#[]⟩, .bool false, .int .i64 0, .int .i64 0, .int .i64 0] 71)).alloc (.cells #[.string ⟨#[115]⟩, .slice (some ⟨w.heap.size + 1 + 1, 0, none⟩) 1 1, .int .i64 0] 74)).heap.size = w.heap.size + 1 + 1 + 1 + 1 := by simp
 have q1 := heap_put (((w.alloc (.cells #[.string ⟨#[65]⟩, .bool false, .int .i64 0, .int .i64 0, .string ⟨#[43]⟩, .bool true, .int .i64 0, .int .i64 0] 68)).alloc (.cells #[.int .i64 1, .string ⟨#[]⟩, .slice (some ⟨w.heap.size, 0, none⟩) 2 2, .int .i64 0] 64)).alloc (.cells #[.slice none 0 0, .string ⟨#[]⟩, .bool false, .int .i64 0, .int .i64 0, .int .i64 0] 71)) (.cells #[.string ⟨#[115]⟩, .slice (some ⟨w.heap.size + 1 + 1, 0, none⟩) 1 1, .int .i64 0] 74) (heap_put ((w.alloc (.cells #[.string ⟨#[65]⟩, .bool false, .int .i64 0, .int .i64 0, .string ⟨#[43]⟩, .bool true, .int .i64 0, .int .i64 0] 68)).alloc (.cells #[.int .i64 1, .string ⟨#[]⟩, .slice (some ⟨w.heap.size, 0, none⟩) 2 2, .int .i64 0] 64)) (.cells #[.slice none 0 0, .string ⟨#[]⟩, .bool false, .int .i64 0, .int .i64 0, .int .i64 0] 71) (heap_put (w.alloc (.cells #[.string ⟨#[65]⟩, .bool false, .int .i64 0, .int .i64 0, .string ⟨#[43]⟩, .bool true, .int .i64 0, .int .i64 0] 68)) (.cells #[.int .i64 1, .string ⟨#[]⟩, .slice (some ⟨w.heap.size, 0, none⟩) 2 2, .int .i64 0] 64) (heap_alloc_new w (.cells #[.string ⟨#[65]⟩, .bool false, .int .i64 0, .int .i64 0, .string ⟨#[43]⟩, .bool true, .int .i64 0, .int .i64 0] 68))))
 have q2 := heap_put (((w.alloc (.cells #[.string ⟨#[65]⟩, .bool false, .int .i64 0, .int .i64 0, .string ⟨#[43]⟩, .bool true, .int .i64 0, .int .i64 0] 68)).alloc (.cells #[.int .i64 1, .string ⟨#[]⟩, .slice (some ⟨w.heap.size, 0, none⟩) 2 2, .int .i64 0] 64)).alloc (.cells #[.slice none 0 0, .string ⟨#[]⟩, .bool false, .int .i64 0, .int .i64 0, .int .i64 0] 71)) (.cells #[.string ⟨#[115]⟩, .slice (some ⟨w.heap.size + 1 + 1, 0, none⟩) 1 1, .int .i64 0] 74) (heap_put ((w.alloc (.cells #[.string ⟨#[65]⟩, .bool false, .int .i64 0, .int .i64 0, .string ⟨#[43]⟩, .bool true, .int .i64 0, .int .i64 0] 68)).alloc (.cells #[.int .i64 1, .string ⟨#[]⟩, .slice (some ⟨w.heap.size, 0, none⟩) 2 2, .int .i64 0] 64)) (.cells #[.slice none 0 0, .string ⟨#[]⟩, .bool false, .int .i64 0, .int .i64 0, .int .i64 0] 71) (heap_alloc_new (w.alloc (.cells #[.string ⟨#[65]⟩, .bool false, .int .i64 0, .int .i64 0, .string ⟨#[43]⟩, .bool true, .int .i64 0, .int .i64 0] 68)) (.cells #[.int .i64 1, .string ⟨#[]⟩, .slice (some ⟨w.heap.size, 0, none⟩) 2 2, .int .i64 0] 64)))
 have q3 := heap_put (((w.alloc (.cells #[.string ⟨#[65]⟩, .bool false, .int .i64 0, .int .i64 0, .string ⟨#[43]⟩, .bool true, .int .i64 0, .int .i64 0] 68)).alloc (.cells #[.int .i64 1, .string ⟨#[]⟩, .slice (some ⟨w.heap.size, 0, none⟩) 2 2, .int .i64 0] 64)).alloc (.cells #[.slice none 0 0, .string ⟨#[]⟩, .bool false, .int .i64 0, .int .i64 0, .int .i64 0] 71)) (.cells #[.string ⟨#[115]⟩, .slice (some ⟨w.heap.size + 1 + 1, 0, none⟩) 1 1, .int .i64 0] 74) (heap_alloc_new ((w.alloc (.cells #[.string ⟨#[65]⟩, .bool false, .int .i64 0, .int .i64 0, .string ⟨#[43]⟩, .bool true, .int .i64 0, .int .i64 0] 68)).alloc (.cells #[.int .i64 1, .string ⟨#[]⟩, .slice (some ⟨w.heap.size, 0, none⟩) 2 2, .int .i64 0] 64)) (.cells #[.slice none 0 0, .string ⟨#[]⟩, .bool false, .int .i64 0, .int .i64 0, .int .i64 0] 71))
 have q4 := heap_alloc_new (((w.alloc (.cells #[.string ⟨#[65]⟩, .bool false, .int .i64 0, .int .i64 0, .string ⟨#[43]⟩, .bool true, .int .i64 0, .int .i64 0] 68)).alloc (.cells #[.int .i64 1, .string ⟨#[]⟩, .slice (some ⟨w.heap.size, 0, none⟩) 2 2, .int .i64 0] 64)).alloc (.cells #[.slice none 0 0, .string ⟨#[]⟩, .bool false, .int .i64 0, .int .i64 0, .int .i64 0] 71)) (.cells #[.string ⟨#[115]⟩, .slice (some ⟨w.heap.size + 1 + 1, 0, none⟩) 1 1, .int .i64 0] 74)
 rw [s1] at q2
 rw [s2] at q3
 rw [s3] at q4
 have hSo := so24_laid q1 q2 q3 q4
 have hb4 := (((Below.refl w.heap.size w).alloc (Nat.le_refl _) (.cells #[.string ⟨#[65]⟩, .bool false, .int .i64 0, .int .i64 0, .string ⟨#[43]⟩, .bool true, .int .i64 0, .int .i64 0] 68)).alloc (by simp) (.cells #[.int .i64 1, .string ⟨#[]⟩, .slice (some ⟨w.heap.size, 0, none⟩) 2 2, .int .i64 0] 64)).alloc (by simp; omega) (.cells #[.slice none 0 0, .string ⟨#[]⟩, .bool false, .int .i64 0, .int .i64 0, .int .i64 0] 71)
 have hb5 := hb4.alloc (by simp; omega) (.cells #[.string ⟨#[115]⟩, .slice (some ⟨w.heap.size + 1 + 1, 0, none⟩) 1 1, .int .i64 0] 74)
 have HGr := Lib.hid (grammar_any hSo so24_small so24_b)
 unfold GrGo at HGr
 rw [so24_ok] at HGr
 have HIS := so24_is
 have HW24 := nums_ok so24_ok
 have H40 := (okOf_w so24_ok).tk
 generalize gmOf so24 = g at *
 have hp0 : so24.pro = ⟨#[]⟩ := rfl
 have ht0 : so24.tail = ⟨#[]⟩ := rfl
 rw [hp0, ht0] at HGr
 generalize hpr : g.pro = pr at HGr
 generalize htl : g.tail = tl at HGr
 clear s1 s2 s3 q1 q2 q3 q4 hSo hb4
 go_enter Try.func21, Try.ntmps21
 go_upto_region 2 with (first | (go_at_call 13; (with_reducible refine HGr.out.mono ?_); rintro e w3 ⟨t, n, p, m1, d1, m2, d2, m3, d3, S, rfl, hFg, hSg, hb6⟩))
 have hk4 : Below w3.heap.size w3 (w3.alloc (.cells #[.slice t m1 d1, .slice n m2 d2, .slice p m3 d3, .string pr, .string tl] 38)) := (Below.refl _ _).alloc (Nat.le_refl _) _
 have hrN := ofMade w3 #[.slice t m1 d1, .slice n m2 d2, .slice p m3 d3, .string pr, .string tl] 38 w3.heap.size rfl
 have hG := (hFg.below hk4).self
 have hbW := (hb5.trans (hb6.mono hb5.size)).trans (hk4.mono (hb5.trans (hb6.mono hb5.size)).size)
 clear HGr hFg hb6 hk4 hSg hb5 s4
 generalize w3.alloc (.cells #[.slice t m1 d1, .slice n m2 d2, .slice p m3 d3, .string pr, .string tl] 38) = V4 at *
 generalize w3.heap.size = Bg at *
 have z0 := cell_of_row _ _ 0 _ _ _ hrN
 have z1 := cell_of_row _ _ 1 _ _ _ hrN
 have z2 := cell_of_row _ _ 2 _ _ _ hrN
 have z3 := cell_of_row _ _ 3 _ _ _ hrN
 have z4 := cell_of_row _ _ 4 _ _ _ hrN
 simp only [List.getElem?_toArray, List.getElem?_cons_succ, List.getElem?_cons_zero] at z0 z1 z2 z3 z4
 have HOf := Lib.hid (numsOf_any hG HW24 (by omega))
 clear hrN hG
 go_upto_region 3 with (first | (go_at_call 24; (with_reducible refine HOf.out.mono ?_); rintro e w5 ⟨v, l, rfl, hl, hll, hv, hb5⟩))
 obtain rfl : l = [(43, 4), (57346, 3)] := hl.eq HIS
 have HPw : ([((43 : Int), (4 : Int)), (57346, 3)]).Pairwise (fun a b => a.1 < b.1) := by decide
 have HT : Hid (∀ (X : World), Below w5.heap.size w5 X → ∀ q : Int, Calls Try.prog 25 #[v, .int .i64 q] X fun e w' => e = .returned (.int .i64 (tokL [(43, 4), (57346, 3)] q)) ∧ Below X.heap.size X w') := Lib.hid (fun X hX q => numTok_any (hv.below hX) HPw (by decide) q)
 have T1 : Hid (∀ (X : World), Below w5.heap.size w5 X → Calls Try.prog 25 #[v, .int .i64 43] X fun e w' => e = .returned (.int .i64 4) ∧ Below X.heap.size X w') := Lib.hid (fun X hX => HT.out X hX 43)
 have T2 : Hid (∀ (X : World), Below w5.heap.size w5 X → Calls Try.prog 25 #[v, .int .i64 57346] X fun e w' => e = .returned (.int .i64 3) ∧ Below X.heap.size X w') := Lib.hid (fun X hX => HT.out X hX 57346)
 have T3 : Hid (∀ (X : World), Below w5.heap.size w5 X → Calls Try.prog 25 #[v, .int .i64 44] X fun e w' => e = .returned (.int .i64 2) ∧ Below X.heap.size X w') := Lib.hid (fun X hX => HT.out X hX 44)
 have T4 : Hid (∀ (X : World), Below w5.heap.size w5 X → Calls Try.prog 25 #[v, .int .i64 0] X fun e w' => e = .returned (.int .i64 0) ∧ Below X.heap.size X w') := Lib.hid (fun X hX => HT.out X hX 0)
 have T5 : Hid (∀ (X : World), Below w5.heap.size w5 X → Calls Try.prog 25 #[v, .int .i64 (-5)] X fun e w' => e = .returned (.int .i64 0) ∧ Below X.heap.size X w') := Lib.hid (fun X hX => HT.out X hX (-5))
 have HEq : Hid (Calls Try.prog 23 #[v, .slice (some ⟨w5.heap.size, 0, none⟩) 2 2] (w5.alloc (.cells #[.int .i64 43, .int .i64 4, .int .i64 57346, .int .i64 3] 60)) fun e w' => e = .returned (.bool true) ∧ Below (w5.alloc (.cells #[.int .i64 43, .int .i64 4, .int .i64 57346, .int .i64 3] 60)).heap.size (w5.alloc (.cells #[.int .i64 43, .int .i64 4, .int .i64 57346, .int .i64 3] 60)) w') := Lib.hid
  (eqPairs_any (hv.below ((Below.refl _ _).alloc (Nat.le_refl _) _)) (two_list (heap_alloc_new w5 _) rfl rfl rfl))
 have f0 : Below w5.heap.size w5 (w5.alloc (.cells #[.int .i64 43, .int .i64 4, .int .i64 57346, .int .i64 3] 60)) := (Below.refl _ _).alloc (Nat.le_refl _) _
 clear HT HPw hv hl hll HOf z0 z1 z2 z3 z4 HIS HW24 H40
 go_wp2_with (first
  | (go_at_call 23; (with_reducible refine HEq.out.mono ?_); rintro e w6 ⟨rfl, g6⟩; have f6 := f0.trans (g6.mono f0.size))
  | (go_at_call 25; (with_reducible refine (T1.out _ f6).mono ?_); rintro e w7 ⟨rfl, g7⟩; have f7 := f6.trans (g7.mono f6.size))
  | (go_at_call 25; (with_reducible refine (T2.out _ f7).mono ?_); rintro e w8 ⟨rfl, g8⟩; have f8 := f7.trans (g8.mono f7.size))
  | (go_at_call 25; (with_reducible refine (T3.out _ f8).mono ?_); rintro e w9 ⟨rfl, g9⟩; have f9 := f8.trans (g9.mono f8.size))
  | (go_at_call 25; (with_reducible refine (T4.out _ f9).mono ?_); rintro e wA ⟨rfl, gA⟩; have fA := f9.trans (gA.mono f9.size))
  | (go_at_call 25; (with_reducible refine (T5.out _ fA).mono ?_); rintro e wB ⟨rfl, gB⟩; have fB := fA.trans (gB.mono fA.size)))
 go_ret
 have hq := hbW.trans (hb5.mono hbW.size)
 exact ⟨rfl, hq.trans (fB.mono hq.size)⟩
end Go.Proofs.Ytkgbifbbpmdpgaa
