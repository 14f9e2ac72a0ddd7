/- What is printed is read as it was: the law PrintBack walked. -/
import Derived.Test.YtnoppoifepbchaaGreatDoorGrW4
import Derived.Test.YtnoppoifepbchaaGreatDoorGrQ
import Derived.Test.YtnoppoifepbchaaGreatDoorCutA
import Derived.Test.YtnoppoifepbchaaGreatDoorOnceP
import Derived.IntWalk
import Derived.Outline
import Derived.Deep.DeepCutAuto
import Derived.Deep.Cut
import Derived.Deep.CutRange
namespace Go.Proofs.YtnoppoifepbchaaGreatDoor
open Go.RowKit
set_option linter.unusedVariables false
set_option linter.unusedSimpArgs false
theorem bk_cell {w W : World} (h : Below w.heap.size w W) {p : Addr} {u : Value} (hu : w.cell? p = some u) : W.cell? p = some u := (h.cell (World.block_lt_of_cell? _ _ hu)).trans hu
theorem bk_firm {S : Nat → Prop} {w1 w2 : World} {Q : World → Prop} (h : Firm S w1 Q) (hb : Below w1.heap.size w1 w2) : Q w2 := (h.below hb).self
theorem bk_text {P : Program} {f : FuncId} {args : Array Value} {l : List UInt8} {w : World} (h : Calls P f args w (TellsTx l w)) : Calls P f args w fun e w' => e = .returned (.string ⟨l.toArray⟩) ∧ Below w.heap.size w w' :=
  h.mono fun e w' ⟨S, he, hS, hb⟩ => ⟨by rw [he, show S = ⟨l.toArray⟩ from ba_of (by simpa using hS)], hb⟩
/-- two sources that the call built, in either order -/
def TwoB (w : World) (s1 s2 : So) (x : Value) (W : World) : Prop := ∃ (B : Nat) (d1 e1 d2 e2 : Option Addr) (m1 c1 n1 g1 m2 c2 n2 g2 : Nat), x = .slice (some ⟨B, 0, none⟩) 2 2 ∧ Below w.heap.size w W ∧
  W.heap[B]? = some (.cells #[.string s1.pro, .slice d1 m1 c1, .slice e1 n1 g1, .string s1.tail, .string s2.pro, .slice d2 m2 c2, .slice e2 n2 g2, .string s2.tail] 36 (0, 0)) ∧ SoV W (.agg #[.string s1.pro, .slice d1 m1 c1, .slice e1 n1 g1, .string s1.tail]) s1 ∧ SoV W (.agg #[.string s2.pro, .slice d2 m2 c2, .slice e2 n2 g2, .string s2.tail]) s2
theorem small_of_bare {s y : So} (h : y.bare = s.bare) (h1 : SoSmall s) (h2 : SoFew s) : SoSmall y ∧ SoFew y := ⟨small_bare h h1, few_bare h h2⟩

set_option maxRecDepth 100000 in
set_option maxHeartbeats 40000000 in
theorem printBack_any (va : Value) (a : So) (vg : Value) (g : Gr) {w : World} (ha : SoV w va a) (hIa : SoIn a) (hg : GrV w vg g) (hIg : GrIn g) (hE : LexEnv w) :
    Calls Tryz.prog 6 #[va, vg] w fun e w' => e = .returned (.bool true) ∧ Below w.heap.size w w' := by
  have HM : Hid (∀ W, Below w.heap.size w W → LexEnv W) := Lib.hid (fun W hb => hE.below hb)
  have HCa := Lib.hid (fun (X : World) (hX : Below w.heap.size w X) => cut_any va a X (ha.below hX) hIa)
  have HSg := Lib.hid (fun (X : World) (hX : Below w.heap.size w X) => source_any vg g X (hg.below hX) hIg)
  obtain ⟨hs1, hf1⟩ := So.cut_small a
  obtain ⟨hs2, hf2⟩ := srcG_small g
  have hm2 := srcG_may g
  have hp2 : (srcG g).pro = ⟨#[]⟩ := rfl
  have ht2 : (srcG g).tail = ⟨#[]⟩ := rfl
  unfold SoGoes at HCa
  unfold SrcGo at HSg
  generalize a.cut = s1 at HCa hs1 hf1
  generalize srcG g = s2 at HSg hs2 hf2 hm2 hp2 ht2
  obtain ⟨ad, ar, rfl, hd, hr⟩ := ha
  obtain ⟨aad, aan, aac, rfl, _, _, _, _⟩ := hd.open
  obtain ⟨arg, arn, arc, rfl, _, _, _, _⟩ := hr.open
  obtain ⟨rv, lv, iv, rfl, hrv, hlv, hiv⟩ := hg.is
  obtain ⟨ga1, gn1, gc1, rfl, _, _, _, _⟩ := hrv.open
  obtain ⟨ga2, gn2, gc2, rfl, _, _, _, _⟩ := hlv.open
  obtain ⟨ga3, gn3, gc3, rfl, _, _, _, _⟩ := hiv.open
  generalize a.pro = ap at HCa ⊢
  generalize a.tail = at1 at HCa ⊢
  generalize g.nons = gn at HSg ⊢
  generalize g.bare = gb at HSg ⊢
  clear hd hr hg hrv hlv hiv hIa hIg hE
  have hb1 := ((Below.refl w.heap.size w).alloc (Nat.le_refl _) (.cells #[.string ap, .slice aad aan aac, .slice arg arn arc, .string at1] 36)).alloc (by simp) (.cells #[.int .i64 gn, .slice ga1 gn1 gc1, .slice ga2 gn2 gc2, .slice ga3 gn3 gc3, .bool gb] 31)
  have hA0 := heap_put (w.alloc (.cells #[.string ap, .slice aad aan aac, .slice arg arn arc, .string at1] 36)) (.cells #[.int .i64 gn, .slice ga1 gn1 gc1, .slice ga2 gn2 gc2, .slice ga3 gn3 gc3, .bool gb] 31) (heap_new w #[.string ap, .slice aad aan aac, .slice arg arn arc, .string at1] 36 _ rfl)
  have hG0 := heap_new (w.alloc (.cells #[.string ap, .slice aad aan aac, .slice arg arn arc, .string at1] 36)) #[.int .i64 gn, .slice ga1 gn1 gc1, .slice ga2 gn2 gc2, .slice ga3 gn3 gc3, .bool gb] 31 (w.heap.size + 1) (World.size_alloc _ _).symm
  have hz0 : ((w.alloc (.cells #[.string ap, .slice aad aan aac, .slice arg arn arc, .string at1] 36)).alloc (.cells #[.int .i64 gn, .slice ga1 gn1 gc1, .slice ga2 gn2 gc2, .slice ga3 gn3 gc3, .bool gb] 31)).heap.size = w.heap.size + 2 := by simp
  have HW := Lib.hid (wakes8_any ((w.alloc (.cells #[.string ap, .slice aad aan aac, .slice arg arn arc, .string at1] 36)).alloc (.cells #[.int .i64 gn, .slice ga1 gn1 gc1, .slice ga2 gn2 gc2, .slice ga3 gn3 gc3, .bool gb] 31)) (HM.out _ hb1).env)
  go_enter Tryz.func6, Tryz.ntmps6
  go_upto_region 3 with (first | (go_at_call 15; (with_reducible refine HW.out.mono ?_); rintro e w1 ⟨rfl, hbw⟩))
  have hbz := hb1.trans (hbw.mono hb1.size)
  have hA1 := (hbw.block w.heap.size (by omega)).trans hA0
  have hG1 := (hbw.block (w.heap.size + 1) (by omega)).trans hG0
  have HX := Lib.hid (fun (X : World) (hX : Below w1.heap.size w1 X) => And.intro ((hX.block w.heap.size (Array.getElem?_eq_some_iff.1 hA1).1).trans hA1) ((hX.block (w.heap.size + 1) (Array.getElem?_eq_some_iff.1 hG1).1).trans hG1))
  have HCb := Lib.hid (fun (X : World) (hX : Below w1.heap.size w1 X) => HCa.out X (hbz.trans (hX.mono hbz.size)))
  have HSb := Lib.hid (fun (X : World) (hX : Below w1.heap.size w1 X) => HSg.out X (hbz.trans (hX.mono hbz.size)))
  clear HW HCa HSg hA0 hG0 hz0 hb1 hbw
  go_cut [5] from 12 to 16 (fun (x5 : Value) wx => TwoB w1 s1 s2 x5 wx)
  case first =>
    have HXc : Hid (∀ X, Below w1.heap.size w1 X → X.cell? ⟨w.heap.size, 0, none⟩ = some (.string ap) ∧ X.cell? ⟨w.heap.size, 1, none⟩ = some (.slice aad aan aac) ∧ X.cell? ⟨w.heap.size, 2, none⟩ = some (.slice arg arn arc) ∧ X.cell? ⟨w.heap.size, 3, none⟩ = some (.string at1) ∧ X.cell? ⟨w.heap.size + 1, 0, none⟩ = some (.int .i64 gn) ∧ X.cell? ⟨w.heap.size + 1, 1, none⟩ = some (.slice ga1 gn1 gc1) ∧ X.cell? ⟨w.heap.size + 1, 2, none⟩ = some (.slice ga2 gn2 gc2) ∧ X.cell? ⟨w.heap.size + 1, 3, none⟩ = some (.slice ga3 gn3 gc3) ∧ X.cell? ⟨w.heap.size + 1, 4, none⟩ = some (.bool gb)) := Lib.hid (fun X hX => ⟨cell_of_row X _ 0 _ _ _ (HX.out X hX).1, cell_of_row X _ 1 _ _ _ (HX.out X hX).1, cell_of_row X _ 2 _ _ _ (HX.out X hX).1, cell_of_row X _ 3 _ _ _ (HX.out X hX).1, cell_of_row X _ 0 _ _ _ (HX.out X hX).2, cell_of_row X _ 1 _ _ _ (HX.out X hX).2, cell_of_row X _ 2 _ _ _ (HX.out X hX).2, cell_of_row X _ 3 _ _ _ (HX.out X hX).2, cell_of_row X _ 4 _ _ _ (HX.out X hX).2⟩)
    have hS1 := HXc.out w1 (Below.refl _ _)
    clear hA1 hG1 HX hs1 hf1 hs2 hf2 hm2 HM hbz
    refine wp_region_held_drew (S := (fun X => X.cell? ⟨w.heap.size, 0, none⟩ = some (.string ap) ∧ X.cell? ⟨w.heap.size, 1, none⟩ = some (.slice aad aan aac) ∧ X.cell? ⟨w.heap.size, 2, none⟩ = some (.slice arg arn arc) ∧ X.cell? ⟨w.heap.size, 3, none⟩ = some (.string at1) ∧ X.cell? ⟨w.heap.size + 1, 0, none⟩ = some (.int .i64 gn) ∧ X.cell? ⟨w.heap.size + 1, 1, none⟩ = some (.slice ga1 gn1 gc1) ∧ X.cell? ⟨w.heap.size + 1, 2, none⟩ = some (.slice ga2 gn2 gc2) ∧ X.cell? ⟨w.heap.size + 1, 3, none⟩ = some (.slice ga3 gn3 gc3) ∧ X.cell? ⟨w.heap.size + 1, 4, none⟩ = some (.bool gb))) (by kernel_rfl) ?hS0 (fun hHeld => ?hR0)
    case hS0 => exact hS1
    case hR0 =>
      refine wpAnyH_take (i := 0) (v := ?_) rfl (by kernel_rfl) (by kernel_rfl) (by kernel_rfl) (fun _ _ _ h => h) (Or.inl ⟨by rfl, ?_⟩) (by assumption) ?_
      rotate_left 1
      · (intro w' hSw; (try dsimp only at hSw); go_simp; all_goals (with_reducible rfl))
      try simp only [Act.put, List.getElem_toArray, List.getElem_cons_succ, List.getElem_cons_zero, List.setIfInBounds_toArray, List.set_cons_zero, List.set_cons_succ]
      refine wpAnyH_take (i := 2) (v := ?_) rfl (by kernel_rfl) (by kernel_rfl) (by kernel_rfl) (fun _ _ _ h => h) (Or.inl ⟨by rfl, ?_⟩) (by assumption) ?_
      rotate_left 1
      · (intro w' hSw; (try dsimp only at hSw); go_simp; all_goals (with_reducible rfl))
      try simp only [Act.put, List.getElem_toArray, List.getElem_cons_succ, List.getElem_cons_zero, List.setIfInBounds_toArray, List.set_cons_zero, List.set_cons_succ]
      refine wpAnyH_ready (rs := [1]) (by kernel_rfl) (by simp) ?_
      refine AllReadyH.cons rfl (fun K hK => ?_) ?_
      · try simp only [List.getElem_toArray, List.getElem_cons_succ, List.getElem_cons_zero]
        go_simp
        go_at_call 16
        (with_reducible refine (HCb.out _ ((Below.refl w1.heap.size w1).drew)).mono ?_)
        rintro e wP ⟨vP, TP, rfl, hFP, hTP, hbP⟩
        obtain ⟨dP, rP, rfl, hdP, hrP⟩ := hFP.self
        obtain ⟨aP, mP, cP, rfl, _, _, _, _⟩ := ListV.open hdP
        obtain ⟨zP, nP, gP, rfl, _, _, _, _⟩ := ListV.open hrP
        clear hdP hrP
        have fP : Below w1.heap.size w1 wP := ((Below.refl w1.heap.size w1).drew).trans (hbP.mono ((Below.refl w1.heap.size w1).drew).size)
        go_wp2_with fail
        refine hK.out _ _ (HXc.out _ fP) (fun hHeld => ?_)
        clear hK K
        try simp only [Act.put, List.getElem_toArray, List.getElem_cons_succ, List.getElem_cons_zero, List.setIfInBounds_toArray, List.set_cons_zero, List.set_cons_succ]
        refine wpAnyH_ready (rs := [3]) (by kernel_rfl) (by simp) ?_
        refine AllReadyH.cons rfl (fun K hK => ?_) ?_
        · try simp only [List.getElem_toArray, List.getElem_cons_succ, List.getElem_cons_zero]
          go_simp
          go_at_call 13
          (with_reducible refine (HSb.out _ (fP)).mono ?_)
          rintro e wQ ⟨dQ, rQ, mQ, cQ, nQ, gQ, TQ, rfl, hFQ, hTQ, hbQ⟩
          have fQ : Below w1.heap.size w1 wQ := (fP).trans (hbQ.mono (fP).size)
          go_wp2_with fail
          refine hK.out _ _ (HXc.out _ fQ) (fun hHeld => ?_)
          clear hK K
          try simp only [Act.put, List.getElem_toArray, List.getElem_cons_succ, List.getElem_cons_zero, List.setIfInBounds_toArray, List.set_cons_zero, List.set_cons_succ]
          refine wpAnyH_ready (rs := [4]) (by kernel_rfl) (by simp) ?_
          refine AllReadyH.cons rfl (fun K hK => ?_) ?_
          · try simp only [List.getElem_toArray, List.getElem_cons_succ, List.getElem_cons_zero]
            go_simp
            have kL := (fQ).alloc (fQ).size (.cells #[.string s1.pro, .slice aP mP cP, .slice zP nP gP, .string s1.tail, .string ⟨#[]⟩, .slice dQ mQ cQ, .slice rQ nQ gQ, .string ⟨#[]⟩] 36)
            refine hK.out _ _ (HXc.out _ kL) (fun hHeld => ?_)
            clear hK K
            try simp only [Act.put, List.getElem_toArray, List.getElem_cons_succ, List.getElem_cons_zero, List.setIfInBounds_toArray, List.set_cons_zero, List.set_cons_succ]
            refine wpAnyH_take (i := 5) (v := ?_) rfl (by kernel_rfl) (by kernel_rfl) (by kernel_rfl) (fun _ _ _ h => h) (Or.inl ⟨by rfl, ?_⟩) (by assumption) ?_
            rotate_left 1
            · (intro w' hSw; (try dsimp only at hSw); go_simp; all_goals (with_reducible rfl))
            try simp only [Act.put, List.getElem_toArray, List.getElem_cons_succ, List.getElem_cons_zero, List.setIfInBounds_toArray, List.set_cons_zero, List.set_cons_succ]
            refine wpAnyH_done (by kernel_rfl) ?_ _
            go_wp2_with fail
            go_meet
            case rel =>
              have kk := (Below.refl wQ.heap.size wQ).alloc (Nat.le_refl _) (.cells #[.string s1.pro, .slice aP mP cP, .slice zP nP gP, .string s1.tail, .string ⟨#[]⟩, .slice dQ mQ cQ, .slice rQ nQ gQ, .string ⟨#[]⟩] 36)
              have hrow := heap_new wQ #[.string s1.pro, .slice aP mP cP, .slice zP nP gP, .string s1.tail, .string ⟨#[]⟩, .slice dQ mQ cQ, .slice rQ nQ gQ, .string ⟨#[]⟩] 36 _ rfl
              refine ⟨wQ.heap.size, aP, zP, dQ, rQ, mP, cP, nP, gP, mQ, cQ, nQ, gQ, rfl, kL, ?_, bk_firm (hFP.below hbQ) kk, ?_⟩
              · rw [hp2, ht2]; exact hrow
              · rw [hp2, ht2]; exact bk_firm hFQ kk
          exact AllReadyH.nil
        exact AllReadyH.nil
      exact AllReadyH.nil
  case rest =>
    obtain ⟨B, d1, e1, d2, e2, m1, c1, n1, g1, m2, c2, n2, g2, rfl, hbB, hBB, hv1, hv2⟩ := hcut
    rename World => w2
    have hb2 := hbz.trans (hbB.mono hbz.size)
    clear HX HCb HSb hA1 hG1 hp2 ht2 hbB hbz
    have HBk : Hid (∀ X, Below w2.heap.size w2 X → X.heap[B]? = some (.cells #[.string s1.pro, .slice d1 m1 c1, .slice e1 n1 g1, .string s1.tail, .string s2.pro, .slice d2 m2 c2, .slice e2 n2 g2, .string s2.tail] 36 (0, 0))) := Lib.hid (fun X h => (h.block B (Array.getElem?_eq_some_iff.1 hBB).1).trans hBB)
    have HAt : Hid (∀ k, k < 2 → ∃ (s : So) (d e : Option Addr) (m c n g : Nat), SoSmall s ∧ SoFew s ∧ (k = 1 → maySo s = true) ∧ ∀ X, Below w2.heap.size w2 X → SoV X (.agg #[.string s.pro, .slice d m c, .slice e n g, .string s.tail]) s ∧ X.cell? ⟨B, k * 4, none⟩ = some (.string s.pro) ∧ X.cell? ⟨B, k * 4 + 1, none⟩ = some (.slice d m c) ∧ X.cell? ⟨B, k * 4 + 2, none⟩ = some (.slice e n g) ∧ X.cell? ⟨B, k * 4 + 3, none⟩ = some (.string s.tail)) := Lib.hid (fun k hk => by
      match k, hk with
      | 0, _ => exact ⟨s1, d1, e1, m1, c1, n1, g1, hs1, hf1, fun e => absurd e (by decide), fun X h => ⟨hv1.below h, cell_of_row X _ 0 _ _ _ (HBk.out X h), cell_of_row X _ 1 _ _ _ (HBk.out X h), cell_of_row X _ 2 _ _ _ (HBk.out X h), cell_of_row X _ 3 _ _ _ (HBk.out X h)⟩⟩
      | 1, _ => exact ⟨s2, d2, e2, m2, c2, n2, g2, hs2, hf2, fun _ => hm2, fun X h => ⟨hv2.below h, cell_of_row X _ 4 _ _ _ (HBk.out X h), cell_of_row X _ 5 _ _ _ (HBk.out X h), cell_of_row X _ 6 _ _ _ (HBk.out X h), cell_of_row X _ 7 _ _ _ (HBk.out X h)⟩⟩)
    clear hv1 hv2 hs1 hs2 hf1 hf2 hm2 HBk hBB
    go_wp2_with fail
    go_loopw [6] (fun x6 X => ∃ k : Nat, k ≤ 2 ∧ x6 = .int .i64 k ∧ Below w2.heap.size w2 X) (fun x6 _ => 2 - (intOf x6).toNat)
    case atStart => exact ⟨0, Nat.zero_le _, rfl, Below.refl _ _⟩
    case round =>
      obtain ⟨k, hk, rfl, hbr⟩ := hrel
      rename World => W
      by_cases hlt : k < 2
      · obtain ⟨s, d, e, m, c, n, gg, hS, hF, hMk, hAt⟩ := HAt.out k hlt
        obtain ⟨hv, x0, x1, x2, x3⟩ := hAt W hbr
        have i1 : (k : Int) < 2 := by omega
        have hbW := hb2.trans (hbr.mono hb2.size)
        have HMay := Lib.hid (rmay_any _ s W hv hS)
        have HMy := Lib.hid hAt
        have hTx := fun (X : World) (h : Below w2.heap.size w2 X) => bk_text (ptext_any _ s X (HMy.out X h).1 hS hF (HM.out X (hb2.trans (h.mono hb2.size))).env)
        have HTx := Lib.hid hTx
        clear HAt hAt hv hTx
        by_cases hmy : maySo s = true
        · rw [hmy] at HMay
          have hne : soT s ≠ [] := fun e => by
            unfold soT at e
            rw [if_pos hmy] at e
            simp at e
          have HB := Lib.hid (fun h => text_back hmy h)
          have hlen := text_len hmy hS hF
          have hl2 : (⟨(soT s).toArray⟩ : ByteArray).size ≤ 140737488355328 := hlen
          have HT2 : Hid (∀ y : So, soT y = soT s → (⟨(soT y).toArray⟩ : ByteArray) = ⟨(soT s).toArray⟩) := Lib.hid (fun y h => by rw [h])
          clear hlen hne
          generalize (⟨(soT s).toArray⟩ : ByteArray) = X at HTx HB hl2 HT2
          generalize soT s = TX at HB HT2
          have d2 : (X.toList == X.toList) = true := by simp
          go_upto_region 10 with (first | (go_at_call 17; (with_reducible refine HMay.out.mono ?_); rintro r w3 ⟨rfl, hb3⟩))
          have hr3 := hbr.trans (hb3.mono hbr.size)
          obtain ⟨_, x0', x1', x2', x3'⟩ := HMy.out w3 hr3
          clear x0 x1 x2 x3
          go_upto_region 11 with (first | (go_at_call 18; (with_reducible refine (HTx.out _ hr3).mono ?_); rintro r w4 ⟨rfl, hb4⟩))
          have hr4 := hr3.trans (hb4.mono hr3.size)
          have hbW4 := hb2.trans (hr4.mono hb2.size)
          clear x0' x1' x2' x3' HMay hb3 hb4
          by_cases hsz : X.size ≤ 4000
          · obtain ⟨y, hy, hbare, hsame, _, htext⟩ := HB.out hsz
            obtain ⟨hSy, hFy⟩ := small_of_bare hbare hS hF
            have HL2 := Lib.hid (readA_any X w4 (by omega) (HM.out _ hbW4))
            rw [hy] at HL2
            unfold ReadGo at HL2
            simp only at HL2
            have i2 : ¬ (X.size : Int) > 4000 := by omega
            clear HB hy hbare
            go_upto_region 13 with (first | (go_at_call 19; refine HL2.out.mono ?_; rintro r w7 ⟨dd, ge, p1, q1, p2, q2, S2, rfl, hF2, hS2, hb7⟩))
            have hb8 : Below w7.heap.size w7 ((w7.alloc (.cells #[.string y.pro, .slice dd p1 q1, .slice ge p2 q2, .string y.tail] 36)).alloc (.cells #[.int .i64 0, .int .i64 0, .string ByteArray.empty] 49)) := ((Below.refl w7.heap.size w7).alloc (Nat.le_refl _) _).alloc (by simp) _
            have HC2 : Hid (∀ W, Below ((w7.alloc (.cells #[.string y.pro, .slice dd p1 q1, .slice ge p2 q2, .string y.tail] 36)).alloc (.cells #[.int .i64 0, .int .i64 0, .string ByteArray.empty] 49)).heap.size ((w7.alloc (.cells #[.string y.pro, .slice dd p1 q1, .slice ge p2 q2, .string y.tail] 36)).alloc (.cells #[.int .i64 0, .int .i64 0, .string ByteArray.empty] 49)) W → (∀ i u, (#[.string y.pro, .slice dd p1 q1, .slice ge p2 q2, .string y.tail] : Array Value)[i]? = some u → W.cell? ⟨w7.heap.size, i, none⟩ = some u) ∧ (∀ i u, (#[.int .i64 0, .int .i64 0, .string ByteArray.empty] : Array Value)[i]? = some u → W.cell? ⟨w7.heap.size + 1, i, none⟩ = some u)) := Lib.hid (fun W h => boxes2 h)
            have hvy : SoV ((w7.alloc (.cells #[.string y.pro, .slice dd p1 q1, .slice ge p2 q2, .string y.tail] 36)).alloc (.cells #[.int .i64 0, .int .i64 0, .string ByteArray.empty] 49)) (.agg #[.string y.pro, .slice dd p1 q1, .slice ge p2 q2, .string y.tail]) y := bk_firm hF2 hb8
            have hr7 := hr4.trans (hb7.mono hr4.size)
            have hr8 : Below w2.heap.size w2 ((w7.alloc (.cells #[.string y.pro, .slice dd p1 q1, .slice ge p2 q2, .string y.tail] 36)).alloc (.cells #[.int .i64 0, .int .i64 0, .string ByteArray.empty] 49)) := hr7.trans (hb8.mono hr7.size)
            generalize ((w7.alloc (.cells #[.string y.pro, .slice dd p1 q1, .slice ge p2 q2, .string y.tail] 36)).alloc (.cells #[.int .i64 0, .int .i64 0, .string ByteArray.empty] 49)) = w8 at hr8 HC2 hvy hb8 ⊢
            generalize w7.heap.size = B7 at HC2 ⊢
            have hbW8 := hb2.trans (hr8.mono hb2.size)
            have HE8 := HM.out _ hbW8
            have hvs := (HMy.out w8 hr8).1
            have HS1 := Lib.hid (fun V => rsame_any _ _ s y (over w8 V) (hvs.below (over_below w8 V)) (hvy.below (over_below w8 V)))
            rw [hsame] at HS1
            have HX2 := Lib.hid (fun V => bk_text (ptext_any _ y (over w8 V) (hvy.below (over_below w8 V)) hSy hFy (HE8.below (over_below w8 V)).env))
            rw [HT2.out y htext] at HX2
            obtain ⟨_, y0, y1, y2, y3⟩ := HMy.out w8 hr8
            have u0 := over_cell y0
            have u1 := over_cell y1
            have u2 := over_cell y2
            have u3 := over_cell y3
            have z0 := over_cell ((HC2.out w8 (Below.refl _ _)).1 0 _ rfl)
            have z1 := over_cell ((HC2.out w8 (Below.refl _ _)).1 1 _ rfl)
            have z2 := over_cell ((HC2.out w8 (Below.refl _ _)).1 2 _ rfl)
            have z3 := over_cell ((HC2.out w8 (Below.refl _ _)).1 3 _ rfl)
            have z4 := over_cell ((HC2.out w8 (Below.refl _ _)).2 0 _ rfl)
            clear hF2 hS2 HL2 hb7 hb8 hvs hvy HE8 HT2 HC2 HMy HTx y0 y1 y2 y3
            refine wp_region_over (by kernel_rfl) (by kernel_rfl) ?_
            repeat (first | go_big_quiet_skip | (go_big_quiet_want; go_big_quiet_op; first | go_big_quiet_on | (apply Exists.intro; refine ⟨fun _ => ?_, ?_⟩; (first | (go_at_call 20; with_reducible exact calls_over (HS1.out _) (fun e w1 h => h)) | (go_at_call 18; with_reducible exact calls_over (HX2.out _) (fun e w1 h => h))); go_big_quiet_on)))
            refine wpQuiet_nil ?_
            intro _ hw'
            obtain ⟨V, hw''⟩ := hw'
            subst hw''
            have hz := over_below w8 V
            generalize over w8 V = w9 at hz ⊢
            go_wp2_with fail
            go_round
            case rel => exact ⟨k + 1, by omega, by go_num, hr8.trans (hz.mono hr8.size)⟩
            case measure => simp [intOf]; omega
          · have i2 : (X.size : Int) > 4000 := by omega
            go_wp2_with fail
            go_round
            case rel => exact ⟨k + 1, by omega, by go_num, hr4⟩
            case measure => simp [intOf]; omega
        · have hmf : maySo s = false := by simpa using hmy
          obtain rfl : k = 0 := by
            by_cases e : k = 1
            · exact absurd (hMk e) hmy
            · omega
          rw [hmf] at HMay
          have he : (⟨(soT s).toArray⟩ : ByteArray) = ⟨#[]⟩ := by unfold soT; rw [if_neg hmy]
          rw [he] at HTx
          have d3 : (⟨#[]⟩ : ByteArray).toList.isEmpty = true := by rw [Lib.toList_data]; rfl
          go_wp2_with (first
            | (go_at_call 17; (with_reducible refine HMay.out.mono ?_); rintro r w3 ⟨rfl, hb3⟩; have hr3 := hbr.trans (hb3.mono hbr.size); obtain ⟨_, x0', x1', x2', x3'⟩ := HMy.out w3 hr3)
            | (go_at_call 18; (with_reducible refine (HTx.out _ hr3).mono ?_); rintro r w4 ⟨rfl, hb4⟩))
          go_round
          case rel => exact ⟨1, by omega, by go_num, hr3.trans (hb4.mono hr3.size)⟩
          case measure => simp [intOf]
      · obtain rfl : k = 2 := by omega
        go_wp2_with fail
        go_ret
        exact ⟨rfl, hb2.trans (hbr.mono hb2.size)⟩
end Go.Proofs.YtnoppoifepbchaaGreatDoor
