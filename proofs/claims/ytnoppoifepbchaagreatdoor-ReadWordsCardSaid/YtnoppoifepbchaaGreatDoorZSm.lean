/- A text's source is the document's: both readers at one text. -/
import Derived.Test.YtnoppoifepbchaaGreatDoorZRd9
import Derived.Test.YtnoppoifepbchaaGreatDoorPlc
import Derived.Test.YtnoppoifepbchaaGreatDoorTellsR
import Derived.Outline
import Derived.Deep.DeepCutAuto
import Derived.Deep.Cut
namespace Go.Proofs.YtnoppoifepbchaaGreatDoor
open Go.RowKit
set_option linter.unusedVariables false
set_option linter.unusedSimpArgs false

set_option maxRecDepth 100000 in
theorem eqFault_any (e p : Int) (t : ByteArray) (w : World) : Calls Tryz.prog 23 #[.agg #[.int .i64 e, .int .i64 p, .string t], .int .i64 e, .int .i64 p, .string t] w fun r w' => r = .returned (.bool true) ∧ Below w.heap.size w w' := by
 have h1 : (t.toList == t.toList) = true := by simp
 have h2 : (e == e) = true := by simp
 have h3 : (p == p) = true := by simp
 go_enter Tryz.func23, Tryz.ntmps23
 go_wp2_with fail
 go_ret
 exact ⟨ret_bool (by simp), (Below.refl _ _).alloc (Nat.le_refl _) _⟩
theorem firm_far {S : Nat → Prop} {w1 w2 : World} {Q : World → Prop} (h : Firm S w1 Q) (hb : Below w1.heap.size w1 w2) : Q w2 := (h.below hb).self

set_option maxRecDepth 100000 in
set_option maxHeartbeats 8000000 in
theorem same7_any (s : ByteArray) (w : World) (hs : s.size ≤ 1000000) (hE : LexEnv w) : Calls Tryz.prog 9 #[.string s] w fun r w' => r = .returned (.bool true) ∧ Below w.heap.size w w' := by
 have HL := Lib.hid (readL_any s w hs hE)
 have HR := Lib.hid (fun W => readR_any s W hs)
 unfold ReadGo at HL
 unfold RReadGo at HR
 generalize readT s = R at HL HR
 obtain ⟨so, e, p⟩ := R
 simp only at HL HR
 have HQ := Lib.hid (fun W => eqFault_any e p ByteArray.empty W)
 have HSr := Lib.hid (So.same_refl so)
 clear hE hs
 go_enter Tryz.func9, Tryz.ntmps9
 go_upto_region 2 with (first | (go_at_call 19; refine HL.out.mono ?_; rintro r w1 ⟨d, g, n1, c1, n2, c2, S1, rfl, hF1, hS1, hb1⟩))
 have hb2 : Below w1.heap.size w1 ((w1.alloc (.cells #[.string so.pro, .slice d n1 c1, .slice g n2 c2, .string so.tail] 36)).alloc (.cells #[.int .i64 e, .int .i64 p, .string ByteArray.empty] 49)) := ((Below.refl w1.heap.size w1).alloc (Nat.le_refl _) (.cells #[.string so.pro, .slice d n1 c1, .slice g n2 c2, .string so.tail] 36)).alloc (by simp) (.cells #[.int .i64 e, .int .i64 p, .string ByteArray.empty] 49)
 have HX : Hid (∀ W, Below ((w1.alloc (.cells #[.string so.pro, .slice d n1 c1, .slice g n2 c2, .string so.tail] 36)).alloc (.cells #[.int .i64 e, .int .i64 p, .string ByteArray.empty] 49)).heap.size ((w1.alloc (.cells #[.string so.pro, .slice d n1 c1, .slice g n2 c2, .string so.tail] 36)).alloc (.cells #[.int .i64 e, .int .i64 p, .string ByteArray.empty] 49)) W → W.cell? ⟨w1.heap.size, 0, none⟩ = some (.string so.pro) ∧ W.cell? ⟨w1.heap.size, 1, none⟩ = some (.slice d n1 c1) ∧ W.cell? ⟨w1.heap.size, 2, none⟩ = some (.slice g n2 c2) ∧ W.cell? ⟨w1.heap.size, 3, none⟩ = some (.string so.tail) ∧ W.cell? ⟨w1.heap.size + 1, 0, none⟩ = some (.int .i64 e) ∧ W.cell? ⟨w1.heap.size + 1, 1, none⟩ = some (.int .i64 p) ∧ W.cell? ⟨w1.heap.size + 1, 2, none⟩ = some (.string ByteArray.empty)) := Lib.hid (fun W h =>
  ⟨(boxes2 h).1 0 _ rfl, (boxes2 h).1 1 _ rfl, (boxes2 h).1 2 _ rfl, (boxes2 h).1 3 _ rfl, (boxes2 h).2 0 _ rfl, (boxes2 h).2 1 _ rfl, (boxes2 h).2 2 _ rfl⟩)
 have HV1 : Hid (∀ W, Below w1.heap.size w1 W → SoV W (.agg #[.string so.pro, .slice d n1 c1, .slice g n2 c2, .string so.tail]) so) := Lib.hid (fun W h => firm_far hF1 h)
 generalize ((w1.alloc (.cells #[.string so.pro, .slice d n1 c1, .slice g n2 c2, .string so.tail] 36)).alloc (.cells #[.int .i64 e, .int .i64 p, .string ByteArray.empty] 49)) = w2 at hb2 HX ⊢
 clear hF1 hS1 HL
 go_upto_region 3 with (first | (go_at_call 22; refine (HR.out _).mono ?_; rintro r w3 ⟨d2, g2, m1, k1, m2, k2, S2, rfl, hF2, hS2, hb3⟩))
 have hk3 : Below w3.heap.size w3 (w3.alloc (.cells #[.string so.pro, .slice d2 m1 k1, .slice g2 m2 k2, .string so.tail] 36)) := (Below.refl w3.heap.size w3).alloc (Nat.le_refl _) (.cells #[.string so.pro, .slice d2 m1 k1, .slice g2 m2 k2, .string so.tail] 36)
 have hy3 := heap_made w3 #[.string so.pro, .slice d2 m1 k1, .slice g2 m2 k2, .string so.tail] 36 _ rfl
 have HC : Hid (∀ W, Below (w3.alloc (.cells #[.string so.pro, .slice d2 m1 k1, .slice g2 m2 k2, .string so.tail] 36)).heap.size (w3.alloc (.cells #[.string so.pro, .slice d2 m1 k1, .slice g2 m2 k2, .string so.tail] 36)) W → W.cell? ⟨w1.heap.size, 0, none⟩ = some (.string so.pro) ∧ W.cell? ⟨w1.heap.size, 1, none⟩ = some (.slice d n1 c1) ∧ W.cell? ⟨w1.heap.size, 2, none⟩ = some (.slice g n2 c2) ∧ W.cell? ⟨w1.heap.size, 3, none⟩ = some (.string so.tail) ∧ W.cell? ⟨w1.heap.size + 1, 0, none⟩ = some (.int .i64 e) ∧ W.cell? ⟨w1.heap.size + 1, 1, none⟩ = some (.int .i64 p) ∧ W.cell? ⟨w1.heap.size + 1, 2, none⟩ = some (.string ByteArray.empty) ∧ W.cell? ⟨w3.heap.size, 0, none⟩ = some (.string so.pro) ∧ W.cell? ⟨w3.heap.size, 1, none⟩ = some (.slice d2 m1 k1) ∧ W.cell? ⟨w3.heap.size, 2, none⟩ = some (.slice g2 m2 k2) ∧ W.cell? ⟨w3.heap.size, 3, none⟩ = some (.string so.tail)) := Lib.hid (fun W h => by
  obtain ⟨q0, q1, q2, q3, r0, r1, r2⟩ := HX.out W (hb3.trans ((hk3.trans (h.mono hk3.size)).mono hb3.size))
  exact ⟨q0, q1, q2, q3, r0, r1, r2, cell_far h (cell_of_row _ _ 0 _ _ _ hy3), cell_far h (cell_of_row _ _ 1 _ _ _ hy3), cell_far h (cell_of_row _ _ 2 _ _ _ hy3), cell_far h (cell_of_row _ _ 3 _ _ _ hy3)⟩)
 have HV : Hid (∀ W, Below (w3.alloc (.cells #[.string so.pro, .slice d2 m1 k1, .slice g2 m2 k2, .string so.tail] 36)).heap.size (w3.alloc (.cells #[.string so.pro, .slice d2 m1 k1, .slice g2 m2 k2, .string so.tail] 36)) W → SoV W (.agg #[.string so.pro, .slice d n1 c1, .slice g n2 c2, .string so.tail]) so ∧ SoV W (.agg #[.string so.pro, .slice d2 m1 k1, .slice g2 m2 k2, .string so.tail]) so) := Lib.hid (fun W h =>
  ⟨HV1.out W (hb2.trans ((hb3.trans ((hk3.trans (h.mono hk3.size)).mono hb3.size)).mono hb2.size)), firm_far hF2 (hk3.trans (h.mono hk3.size))⟩)
 have hb4 : Below w.heap.size w (w3.alloc (.cells #[.string so.pro, .slice d2 m1 k1, .slice g2 m2 k2, .string so.tail] 36)) := (hb1.trans (hb2.mono hb1.size)).trans ((hb3.trans (hk3.mono hb3.size)).mono (hb1.trans (hb2.mono hb1.size)).size)
 generalize hw4 : w3.alloc (.cells #[.string so.pro, .slice d2 m1 k1, .slice g2 m2 k2, .string so.tail] 36) = w4 at HC HV hb4 ⊢
 have h44 := Below.refl w4.heap.size w4
 obtain ⟨p0, p1, p2, p3, f0, f1, f2, y0, y1, y2, y3⟩ := HC.out _ h44
 clear hF2 hS2 hk3 hy3 hb3 HX HV1 HR hw4
 go_wp2_with (first
  | (go_at_call 23; refine (HQ.out _).mono ?_; rintro r w5 ⟨rfl, hb5⟩; obtain ⟨pp0, pp1, pp2, pp3, _, _, _, yy0, yy1, yy2, yy3⟩ := HC.out _ hb5; have hv5 := Lib.hid (HV.out _ hb5))
  | (go_at_call 20; refine (rsame_any _ _ so so _ hv5.out.1 hv5.out.2).mono ?_; rw [HSr.out]; rintro r w6 ⟨rfl, hb6⟩; have hb56 := hb5.trans (hb6.mono hb5.size); obtain ⟨qp0, qp1, qp2, qp3, _, _, _, qy0, qy1, qy2, qy3⟩ := HC.out _ hb56; have hv6 := Lib.hid (HV.out _ hb56))
  | (go_at_call 24; refine (places_any _ _ so _ hv6.out.1 hv6.out.2).mono ?_; rintro r w7 ⟨rfl, hb7⟩))
 go_ret
 have hb57 := hb56.trans (hb7.mono hb56.size)
 exact ⟨by first | rfl | exact ret_bool (by simp), hb4.trans (hb57.mono hb4.size)⟩
end Go.Proofs.YtnoppoifepbchaaGreatDoor
