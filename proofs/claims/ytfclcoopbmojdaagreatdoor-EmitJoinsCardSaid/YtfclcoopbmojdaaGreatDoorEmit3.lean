/- The line of two lists is that of the first one, and of the other one behind it. -/
import Derived.Test.YtfclcoopbmojdaaGreatDoorEmit2
import Derived.Outline
import Derived.Deep.DeepCutAuto
import Derived.Deep.Cut
namespace Go.Proofs.YtfclcoopbmojdaaGreatDoor
open Go.RowKit
set_option linter.unusedVariables false
set_option linter.unusedSimpArgs false

def betI (a b : List Int) : List UInt8 := if a = [] ∨ b = [] then [] else [44, 32]
theorem joinI_app (a b : List Int) : joinI (a ++ b) = joinI a ++ betI a b ++ joinI b := by
  unfold betI
  cases a with
  | nil => simp [joinI_nil]
  | cons x r =>
    cases b with
    | nil => simp [joinI_nil]
    | cons y s =>
      rw [if_neg (by simp)]
      unfold joinI
      rw [List.cons_append, List.map_cons, List.map_cons, List.map_cons, List.map_append, Lib.join_cons, Lib.join_cons, Lib.join_cons]
      simp [Lib.joinTail]
theorem list_data (name : ByteArray) (l : List Int) : (listS name l).data.toList = (headS name).data.toList ++ joinI l ++ [125] := by
  unfold listS
  rw [ByteArray.data_append, ByteArray.data_append, Array.toList_append, Array.toList_append]
theorem list_size (name : ByteArray) (l : List Int) : (listS name l).size = name.size + 14 + (joinI l).length := by
  have h := congrArg List.length (list_data name l)
  have e1 : (listS name l).data.toList.length = (listS name l).size := rfl
  have e2 : (headS name).data.toList.length = (headS name).size := rfl
  rw [List.length_append, List.length_append, e1, e2, headS_size] at h
  simp only [List.length_singleton] at h
  omega
theorem head_nil : headS ByteArray.empty = ⟨#[118, 97, 114, 32, 32, 61, 32, 91, 93, 105, 110, 116, 123]⟩ := by decide
theorem ext_data (s : ByteArray) (i j : Nat) : (s.extract i j).data.toList = (s.data.toList.drop i).take (j - i) := Lib.extract_data s i j
theorem list_front (name : ByteArray) (l : List Int) : ((listS name l).extract 0 ((listS name l).size - 1)).data.toList = (headS name).data.toList ++ joinI l := by
  rw [ext_data, list_size, list_data, List.drop_zero]
  have e2 : (headS name).data.toList.length = name.size + 13 := headS_size name
  rw [List.take_append_of_le_length (by rw [List.length_append, e2]; omega), List.take_of_length_le (by rw [List.length_append, e2]; omega)]
theorem list_head (l : List Int) : (listS ByteArray.empty l).extract 0 13 = ⟨#[118, 97, 114, 32, 32, 61, 32, 91, 93, 105, 110, 116, 123]⟩ := by
  apply ByteArray.ext
  apply Array.toList_inj.1
  rw [ext_data, list_data, List.drop_zero, head_nil, List.append_assoc]
  rw [List.take_append_of_le_length (by simp)]
  rfl
theorem list_back (l : List Int) : ((listS ByteArray.empty l).extract 13 (listS ByteArray.empty l).size).data.toList = joinI l ++ [125] := by
  rw [ext_data, list_size, list_data, head_nil, List.append_assoc]
  rw [List.drop_append_of_le_length (by simp)]
  have e : (ByteArray.empty).size = 0 := rfl
  rw [e, List.take_of_length_le (by simp; omega)]
  rfl
theorem list_last (name : ByteArray) (l : List Int) (h : (listS name l).size - 1 < (listS name l).size) : (((listS name l)[(listS name l).size - 1]'h).toNat : Int) = 125 := by
  have h1 : (listS name l).data.toList[(listS name l).size - 1]? = some 125 := by
    have e2 : (headS name).data.toList.length = name.size + 13 := headS_size name
    rw [list_data, list_size, List.getElem?_append_right (by rw [List.length_append, e2]; omega)]
    rw [show name.size + 14 + (joinI l).length - 1 - ((headS name).data.toList ++ joinI l).length = 0 by rw [List.length_append, e2]; omega]
    rfl
  have h2 : (listS name l)[(listS name l).size - 1]'h = (listS name l).data.toList[(listS name l).size - 1]'h := rfl
  rw [h2]
  have h3 := (List.getElem?_eq_some_iff.1 h1).2
  rw [h3]; rfl
theorem list_sum (name : ByteArray) (a b : List Int) : listS name (a ++ b) = (listS name a).extract 0 ((listS name a).size - 1) ++ ⟨(betI a b).toArray⟩ ++ (listS ByteArray.empty b).extract 13 (listS ByteArray.empty b).size := by
  apply ByteArray.ext
  apply Array.toList_inj.1
  rw [ByteArray.data_append, ByteArray.data_append, Array.toList_append, Array.toList_append, list_front, list_back, list_data, joinI_app]
  simp

theorem owns_empty (w : World) (E : TypeId) : (w.alloc (.cells #[] E)).ownsRow w.heap.size E 1 (.slice (some ⟨w.heap.size, 0, none⟩) 0 0) 0 [] :=
  ⟨rfl, .inr ⟨w.heap.size, 0, #[], rfl, Nat.le_refl _, heap_alloc_new _ _, Nat.le_refl _, by unfold maxLen; omega, rfl, rfl⟩⟩
theorem ints_one (l : List Int) : ∀ u ∈ l.map (Value.int .i64), u.oneCell' = true := by
  intro u hu
  obtain ⟨x, _, rfl⟩ := List.mem_map.1 hu
  rfl
theorem Tryz.infoInt : (Tryz.prog.info? 3).map (fun i => (i.zero, i.size, i.bytes)) = some (some (.int .i64 0), 1, 8) := by kernel_rfl

set_option maxRecDepth 100000 in
set_option maxHeartbeats 8000000 in
theorem emitJoins_any (name : ByteArray) (va : Value) (la : List Int) (vb : Value) (lb : List Int) {w : World} (hs : name.size ≤ maxLen) (hva : IntsV w va la ∧ InI la) (hvb : IntsV w vb lb ∧ InI lb) (hE : Env w) :
    Calls Tryz.prog 4 #[.string name, va, vb] w fun e w' => e = .returned (.bool true) ∧ Below w.heap.size w w' := by
  obtain ⟨hv, hi⟩ := hva
  obtain ⟨hu, hj⟩ := hvb
  have HW := Lib.hid (wakes28_any w hE)
  have HT := Lib.hid (fun W => text_any name 40 W hs (by omega))
  have HC : Hid (∀ (W : World), IntsV W va la → Calls Tryz.prog 7 #[va, .int .i64 60] W fun e w' => e = .returned (cutV va la 60) ∧ W = w') := Lib.hid (fun (W : World) (h : IntsV W va la) => cutI_any va la 60 W h (by omega))
  have HD : Hid (∀ (W : World), IntsV W vb lb → Calls Tryz.prog 7 #[vb, .int .i64 60] W fun e w' => e = .returned (cutV vb lb 60) ∧ W = w') := Lib.hid (fun (W : World) (h : IntsV W vb lb) => cutI_any vb lb 60 W h (by omega))
  have ca := cutI_len la 60
  have cb := cutI_len lb 60
  have cs := cutT_size name 40
  have ia := cutI_in (m := 60) hi
  have ib := cutI_in (m := 60) hj
  have iab : InI (cutI la 60 ++ cutI lb 60) := fun x hx => by
    rcases List.mem_append.1 hx with h | h
    · exact ia x h
    · exact ib x h
  have HVA := Lib.hid (fun (W : World) (h : IntsV W va la) => (cutV_ints (m := 60) h))
  have HVB := Lib.hid (fun (W : World) (h : IntsV W vb lb) => (cutV_ints (m := 60) h))
  have HE := Lib.hid hE
  have HIA := Lib.hid hv
  have HIB := Lib.hid hu
  generalize cutV va la 60 = cva at HC HVA
  generalize cutV vb lb 60 = cvb at HD HVB
  generalize cutI la 60 = A at HVA ca ia iab
  generalize cutI lb 60 = B at HVB cb ib iab
  generalize cutT name 40 = cn at HT cs
  have HA := Lib.hid (fun (W : World) (hE : Env W) (h : IntsV W cva A) => emitList_any cn cva A W h ia (by omega) (by omega) hE)
  have HB := Lib.hid (fun (W : World) (hE : Env W) (h : IntsV W cvb B) => emitList_any ⟨#[]⟩ cvb B W h ib (by omega) (by decide) hE)
  have HS := Lib.hid (fun (W : World) (u : Value) (hE : Env W) (h : IntsV W u (A ++ B)) => emitList_any cn u (A ++ B) W h iab (by rw [List.length_append]; omega) (by omega) hE)
  have sA : (listS cn A).size ≤ 2000 := by rw [list_size]; have := joinI_len A ia; omega
  have sA0 : 14 ≤ (listS cn A).size := by rw [list_size]; omega
  have sB : (listS ⟨#[]⟩ B).size ≤ 2000 := by rw [list_size]; have := joinI_len B ib; have e : (⟨#[]⟩ : ByteArray).size = 0 := rfl; omega
  have sB0 : 14 ≤ (listS ⟨#[]⟩ B).size := by rw [list_size]; omega
  obtain ⟨m, hm⟩ : ∃ m, (listS cn A).size = m + 1 := ⟨(listS cn A).size - 1, by omega⟩
  have d1 : ((listS ⟨#[]⟩ B).extract 0 13 |>.toList) = (⟨#[118, 97, 114, 32, 32, 61, 32, 91, 93, 105, 110, 116, 123]⟩ : ByteArray).toList := by
    have e := list_head B
    have e2 : ByteArray.empty = ⟨#[]⟩ := rfl
    rw [e2] at e; rw [e]
  have d2 : ∀ h, (((listS cn A)[m]'h).toNat : Int) = 125 := by
    intro h
    have e : m = (listS cn A).size - 1 := by omega
    subst e
    exact list_last cn A h
  have HZ : Hid (listS cn (A ++ B) = (listS cn A).extract 0 m ++ ⟨(betI A B).toArray⟩ ++ (listS ⟨#[]⟩ B).extract 13 (listS ⟨#[]⟩ B).size) := Lib.hid (by
    have e := list_sum cn A B
    rw [show (listS cn A).size - 1 = m by omega] at e
    exact e)
  generalize listS cn A = X at HA sA sA0 hm d2 HZ
  generalize listS ⟨#[]⟩ B = Y at HB sB sB0 d1 HZ
  generalize listS cn (A ++ B) = Z at HS HZ
  obtain ⟨i0, hi0, hz0, hz1, hz2⟩ := info_parts Tryz.infoInt
  have nA : Hid (∃ a n c, cva = .slice a n c ∧ n = A.length) := Lib.hid (by
    obtain ⟨a, n, c, e, hn, _⟩ := (HVA.out w hv).1.open
    exact ⟨a, n, c, e, hn.out⟩)
  have nB : Hid (∃ a n c, cvb = .slice a n c ∧ n = B.length) := Lib.hid (by
    obtain ⟨a, n, c, e, hn, _⟩ := (HVB.out w hu).1.open
    exact ⟨a, n, c, e, hn.out⟩)
  obtain ⟨aa, na, nca, rfl, hna⟩ := nA.out
  obtain ⟨ab, nb, ncb, rfl, hnb⟩ := nB.out
  subst hna
  subst hnb
  clear nA nB hv hu hE hs hi hj ia ib iab cs
  go_enter Tryz.func4, Tryz.ntmps4
  go_upto_region 4 with (first
    | (go_at_call 5; refine HW.out.mono ?_; rintro e w1 ⟨rfl, hb1⟩; have hE1 := Lib.hid (HE.out.below hb1); have hI1 := Lib.hid (HIA.out.below hb1); have hJ1 := Lib.hid (HIB.out.below hb1); have hA1 := Lib.hid (HVA.out _ hI1.out).1; have hB1 := Lib.hid (HVB.out _ hJ1.out).1)
    | (go_at_call 6; refine (HT.out _).mono ?_; rintro e w8 ⟨rfl, rfl⟩)
    | (go_at_call 7; (with_reducible refine (HC.out _ hI1.out).mono ?_); rintro e w8 ⟨rfl, rfl⟩)
    | (go_at_call 7; (with_reducible refine (HD.out _ hJ1.out).mono ?_); rintro e w8 ⟨rfl, rfl⟩))
  go_upto_region 6 with (first
    | (go_at_call 8; (with_reducible refine (HA.out _ hE1.out hA1.out).mono ?_); rintro e w2 ⟨rfl, hb2⟩; have hE2 := Lib.hid (hE1.out.below hb2); have hA2 := Lib.hid (hA1.out.below hb2); have hB2 := Lib.hid (hB1.out.below hb2))
    | (go_at_call 8; (with_reducible refine (HB.out _ hE2.out hB2.out).mono ?_); rintro e w3 ⟨rfl, hb3⟩; have hE3 := Lib.hid (hE2.out.below hb3); have hA3 := Lib.hid (hA2.out.below hb3); have hB3 := Lib.hid (hB2.out.below hb3)))
  have hb12 := hb1.trans (hb2.mono hb1.size)
  have hb13 := hb12.trans (hb3.mono hb12.size)
  clear HW HT HC HD HVA HVB HIA HIB hI1 hJ1 hA1 hB1 hA2 hB2 hE1 hE2 HA HB hb1 hb2 hb3 hb12
  have e1 : (Y.extract 0 13).toList = [118, 97, 114, 32, 32, 61, 32, 91, 93, 105, 110, 116, 123] := by rw [d1, Lib.toList_data]
  have e2 : (((m : Int) + 1) == 0) = false := by simp; omega
  have hm2 : (X.size : Int) = (m : Int) + 1 := by omega
  clear d1
  have hab : ((A.length : Int) == 0) = true ∧ betI A B = [] ∨ ((A.length : Int) == 0) = false ∧ ((B.length : Int) == 0) = true ∧ betI A B = [] ∨ ((A.length : Int) == 0) = false ∧ ((B.length : Int) == 0) = false ∧ betI A B = [44, 32] := by
    unfold betI
    cases A with
    | nil => left; simp
    | cons x r =>
      cases B with
      | nil => right; left; exact ⟨by simp; omega, by simp, by simp⟩
      | cons y t => right; right; exact ⟨by simp; omega, by simp; omega, by simp⟩
  rcases hab with ⟨dA, hbet⟩ | ⟨dA, dB, hbet⟩ | ⟨dA, dB, hbet⟩
  all_goals
    rw [hbet] at HZ
    clear hbet
    go_upto_region 11 with fail
  all_goals
    have sX1 : (X.extract 0 m).size = m := by rw [ByteArray.size_extract]; omega
    have sY1 : (Y.extract 13 Y.size).size = Y.size - 13 := by rw [ByteArray.size_extract]; omega
    have hw1 : IntKind.i64.wrap (m : Int) = (m : Int) := by rw [IntKind.wrap_i64]; omega
    have hw2 : (0 : Int) ≤ (m : Int) := by omega
    have hw3 : (m : Int) ≤ (m : Int) + 1 := by omega
    have hw4 : (13 : Int) ≤ (Y.size : Int) := by omega
    have q1 : ¬ 9223372036854775807 < m := by omega
    have q2 : ¬ 9223372036854775807 < m + 2 := by omega
    have q3 : ¬ 9223372036854775807 < m + (Y.size - 13) := by omega
    have q4 : ¬ 9223372036854775807 < m + 2 + (Y.size - 13) := by omega
    have srcA : ∀ W, Below w3.heap.size w3 W → SrcV W (.slice aa A.length nca) A.length (A.map (.int .i64)) := fun W h => SrcV.of_ints (hA3.out.below h)
    have srcB : ∀ W, Below w3.heap.size w3 W → SrcV W (.slice ab B.length ncb) B.length (B.map (.int .i64)) := fun W h => SrcV.of_ints (hB3.out.below h)
    have b3 : ∀ W, Below w3.heap.size w3 W → Below w.heap.size w W := fun W h => hb13.trans (h.mono hb13.size)
    have eE : ∀ W, Below w3.heap.size w3 W → Env W := fun W h => hE3.out.below h
    clear hA3 hB3 hE3 HE
    go_region_law (first
      | (refine step_append_src rfl (.tmp 59) (.tmp 60) 22 rfl w3.heap.size 3 i0 (.int .i64 0) 1 8 Tryz.underlying22 hi0 hz0 hz1 hz2 rfl (by decide) (.slice (some ⟨w3.heap.size, 0, none⟩) 0 0) 0 [] (by simp [Act.eval]) (by first | exact owns_empty w3 _ | exact owns_empty w3.drew _ | exact (owns_empty w3 _).drew) (.slice aa A.length nca) A.length (A.map (.int .i64)) (by simp [Act.eval]) (srcA _ (by first | exact (Below.refl _ _).alloc (Nat.le_refl _) _ | exact (Below.refl _ _).drew.alloc (Nat.le_refl _) _ | exact ((Below.refl _ _).alloc (Nat.le_refl _) _).drew)) (by simp) (ints_one _) (by unfold maxLen; omega) (by omega) (by simp) ?_; intro v1 w4 hown1 hgrow1; have hb4 : Below w3.heap.size w3 w4 := (by first | exact (Below.refl _ _).alloc (Nat.le_refl _) _ | exact (Below.refl _ _).drew.alloc (Nat.le_refl _) _ | exact ((Below.refl _ _).alloc (Nat.le_refl _) _).drew : Below w3.heap.size w3 _).grown hgrow1 (by simp) (by intro k hk; cases hk; exact Nat.le_refl _))
      | (refine step_append_src rfl (.tmp 61) (.tmp 62) 22 rfl w3.heap.size 3 i0 (.int .i64 0) 1 8 Tryz.underlying22 hi0 hz0 hz1 hz2 rfl (by decide) v1 _ _ (by simp [Act.eval]) hown1 (.slice ab B.length ncb) B.length (B.map (.int .i64)) (by simp [Act.eval]) (srcB _ hb4) (by simp) (ints_one _) (by unfold maxLen; omega) (by omega) hb4.size ?_; intro v2 w5 hown2 hgrow2; have hb5 : Below w3.heap.size w3 w5 := hb4.grown hgrow2 hb4.size (own_base hown1 (Nat.le_refl _)))
      | (go_simp; go_at_call 8; refine (HS.out _ v2 (eE _ hb5) (IntsV.of_owns (e := 3) (base := w3.heap.size) (by simpa using hown2))).mono ?_; rintro e w6 ⟨rfl, hb6⟩))
    go_wp2_with fail
    go_ret
    exact ⟨ret_bool (by rw [HZ.out]; simp), b3 _ (hb5.trans (hb6.mono hb5.size))⟩
end Go.Proofs.YtfclcoopbmojdaaGreatDoor
