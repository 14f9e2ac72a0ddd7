/- The reader: a rule, the rules. -/
import Derived.Test.YtnoppoifepbchaaDoorRd5
import Derived.Test.YtnoppoifepbchaaDoorRd6
namespace Go.Proofs.YtnoppoifepbchaaDoor

open Go.RowKit
set_option linter.unusedVariables false
set_option linter.unusedSimpArgs false

theorem rdInfoAlt : (Tryd.prog.info? 42).map (fun i => (i.zero, i.size, i.bytes)) = some (some (.agg #[.slice none 0 0, .string ByteArray.empty, .bool false, .int .i64 0, .int .i64 0, .int .i64 0]), 6, 72) := by kernel_rfl
theorem rdInfoRule : (Tryd.prog.info? 37).map (fun i => (i.zero, i.size, i.bytes)) = some (some (.agg #[.string ByteArray.empty, .slice none 0 0, .int .i64 0]), 3, 48) := by kernel_rfl
theorem signT_one (c : UInt8) (x : Wd) : signT ⟨#[c]⟩ x = signB c x := by
 unfold signT signB
 rw [Bool.eq_iff_iff]
 simp [ByteArray.toList_eq]

section
variable {L : Wds} {n : Nat}
theorem rule_bad1 (h : (wAt L n).kind ≠ 1) : ruleS (L.drop n) = .bad (L.drop n) := by
 unfold ruleS
 rw [if_pos (show (hdW (L.drop n)).kind ≠ 1 from h)]
theorem rule_bad2 (h : (wAt L n).kind = 1) (h2 : signB 58 (wAt L (n + 1)) = false) : ruleS (L.drop n) = .bad (L.drop (n + 1)) := by
 unfold ruleS
 rw [if_neg (show ¬ (hdW (L.drop n)).kind ≠ 1 from fun e => e h), drop_tail, if_pos (show signB 58 (hdW (L.drop (n + 1))) = false from h2)]
theorem rule_bad3 (h : (wAt L n).kind = 1) (h2 : signB 58 (wAt L (n + 1)) = true) {r : Wds} (h3 : altsS [] (L.drop (n + 2)) = .bad r) : ruleS (L.drop n) = .bad r := by
 unfold ruleS
 rw [if_neg (show ¬ (hdW (L.drop n)).kind ≠ 1 from fun e => e h), drop_tail, if_neg (show ¬ signB 58 (hdW (L.drop (n + 1))) = false from fun e => by rw [show hdW (L.drop (n + 1)) = wAt L (n + 1) from rfl, h2] at e; cases e), drop_tail, h3]
theorem rule_ok (h : (wAt L n).kind = 1) (h2 : signB 58 (wAt L (n + 1)) = true) {r : Wds} {l : List Al} (h3 : altsS [] (L.drop (n + 2)) = .ok l r) : ruleS (L.drop n) = .ok ⟨(wAt L n).text, l, (wAt L n).place⟩ (semiS r) := by
 unfold ruleS
 rw [if_neg (show ¬ (hdW (L.drop n)).kind ≠ 1 from fun e => e h), drop_tail, if_neg (show ¬ signB 58 (hdW (L.drop (n + 1))) = false from fun e => by rw [show hdW (L.drop (n + 1)) = wAt L (n + 1) from rfl, h2] at e; cases e), drop_tail, h3]; rfl
theorem alts_bad {l : List Al} {r : Wds} (h : altS (L.drop n) = .bad r) : altsS l (L.drop n) = .bad r := by
 rw [altsS]
 split
 · rename_i r' h2
   rw [h] at h2
   cases h2; rfl
 · rename_i a r' h2
   rw [h] at h2
   cases h2
theorem alts_more {l : List Al} {x : Al} {m : Nat} (h : altS (L.drop n) = .ok x (L.drop m)) (hm : m < L.length) (h2 : signB 124 (wAt L m) = true) : altsS l (L.drop n) = altsS (l ++ [x]) (L.drop (m + 1)) := by
 rw [altsS]
 split
 · rename_i r' h3
   rw [h] at h3
   cases h3
 · rename_i a r' h3
   rw [h] at h3
   cases h3
   rw [dif_pos ⟨drop_ne hm, h2⟩, drop_tail]
theorem alts_last {l : List Al} {x : Al} {m : Nat} (h : altS (L.drop n) = .ok x (L.drop m)) (h2 : signB 124 (wAt L m) = false) : altsS l (L.drop n) = .ok (l ++ [x]) (L.drop m) := by
 rw [altsS]
 split
 · rename_i r' h3
   rw [h] at h3
   cases h3
 · rename_i a r' h3
   rw [h] at h3
   cases h3
   rw [dif_neg (fun e => by have e2 := e.2; rw [show hdW (L.drop m) = wAt L m from rfl, h2] at e2; cases e2)]
theorem semi_yes (h : signB 59 (wAt L n) = true) : semiS (L.drop n) = L.drop (n + 1) := by
 unfold semiS
 rw [if_pos (show signB 59 (hdW (L.drop n)) = true from h), drop_tail]
theorem semi_no (h : signB 59 (wAt L n) = false) : semiS (L.drop n) = L.drop n := by
 unfold semiS
 rw [if_neg (show ¬ signB 59 (hdW (L.drop n)) = true from fun e => by rw [show hdW (L.drop n) = wAt L n from rfl, h] at e; cases e)]
theorem signB_kind {c : UInt8} {x : Wd} (h : signB c x = true) : x.kind = 6 := by
 unfold signB at h
 rw [decide_eq_true_iff] at h
 exact h.1
end

def RuleGo (w0 : World) (a : Nat) (wv : Value) (hp : Bool) (pro : ByteArray) (dv : Value) (L : Wds) (B : Nat) (rs : List Rl) (n : Nat) (RES : Rd Rl) (w : World) (e : Ending) (w' : World) : Prop :=
 (∃ x m rv xs S, RES = .ok x (L.drop m) ∧ m < L.length ∧ n < m ∧ e = .returned (.bool true) ∧ RdAt w0 w' a wv m hp pro dv rv ∧ GrowL B 37 3 rlR S w' rv xs (rs ++ [x]) ∧ (∀ b, S b → B ≤ b) ∧ Turns (beh a B) w w') ∨
 (∃ m rv, RES = .bad (L.drop m) ∧ m < L.length ∧ e = .returned (.bool false) ∧ RdAt w0 w' a wv m hp pro dv rv ∧ Turns (beh a B) w w')

section
variable {w0 w : World} {a : Nat} {wv : Value} {n : Nat} {hp : Bool} {pro : ByteArray} {dv rv : Value} {L : Wds}
/-- takeSign, whichever way -/
theorem takeSign_any (hI : RdIn w0 wv L a) (h : RdAt w0 w a wv n hp pro dv rv) (hn : n < L.length) (c : UInt8) :
  Calls Tryd.prog 95 #[.pointer (some ⟨a, 0, none⟩), .string ⟨#[c]⟩] w (RdGo w0 a wv (if signB c (wAt L n) = true then n + 1 else n) hp pro dv rv w (.bool (signB c (wAt L n)))) := by
 cases hs : signB c (wAt L n) with
 | true => rw [if_pos rfl]; exact takeSign_yes hI h hn _ (by rw [signT_one]; exact hs)
 | false =>
   rw [if_neg (by decide)]
   exact (takeSign_no hI h hn _ (by rw [signT_one]; exact hs)).mono fun e w' ⟨h1, h2⟩ => ⟨h1, h.ahead h2, Turns.of_below h2⟩

set_option maxRecDepth 100000 in
set_option maxHeartbeats 40000000 in
theorem rule_any (hI : RdIn w0 wv L a) (h : RdAt w0 w a wv n hp pro dv rv) (hn : n < L.length)
  {B : Nat} {rs : List Rl} {xs : List Value} {Sr : Nat → Prop} (hG : GrowL B 37 3 rlR Sr w rv xs rs) (hS : ∀ b, Sr b → B ≤ b) (haB : a < B) (hB : B ≤ w.heap.size) (hlen : rs.length ≤ 100000) :
  Calls Tryd.prog 57 #[.pointer (some ⟨a, 0, none⟩)] w (RuleGo w0 a wv hp pro dv L B rs n (ruleS (L.drop n)) w) := by
 have ha := h.lt
 have hlt := h.below.size
 have hL6 := hI.ok.len
 have HI := Lib.hid hI
 have HG := Lib.hid (And.intro hG hS)
 have hW := Lib.hid (word_any hI h hn)
 have HT := Lib.hid (fun (X : World) (hX : RdAt w0 X a wv n hp pro dv rv) => rdTake_any hI hX hn)
 have HNx : Hid ((wAt L n).kind ≠ 10 → n + 1 < L.length) := Lib.hid (fun e => hI.ok.next hn e)
 have H1 : Hid ((wAt L n).kind ≠ 1 → ruleS (L.drop n) = .bad (L.drop n)) := Lib.hid rule_bad1
 have H2 : Hid ((wAt L n).kind = 1 → signB 58 (wAt L (n + 1)) = false → ruleS (L.drop n) = .bad (L.drop (n + 1))) := Lib.hid rule_bad2
 have H3 : Hid ((wAt L n).kind = 1 → signB 58 (wAt L (n + 1)) = true → ∀ r, altsS [] (L.drop (n + 2)) = .bad r → ruleS (L.drop n) = .bad r) := Lib.hid (fun e e2 r e3 => rule_bad3 e e2 e3)
 have H4 : Hid ((wAt L n).kind = 1 → signB 58 (wAt L (n + 1)) = true → ∀ l r, altsS [] (L.drop (n + 2)) = .ok l r → ruleS (L.drop n) = .ok ⟨(wAt L n).text, l, (wAt L n).place⟩ (semiS r)) := Lib.hid (fun e e2 l r e3 => rule_ok e e2 e3)
 have HSg : Hid (n + 1 < L.length → ∀ X : World, RdAt w0 X a wv (n + 1) hp pro dv rv → _) := Lib.hid (fun e X hX => takeSign_any hI hX e 58)
 have HK6 : Hid (n + 1 < L.length → signB 58 (wAt L (n + 1)) = true → n + 2 < L.length) := Lib.hid (fun e e2 => hI.ok.next e (by rw [signB_kind e2]; decide))
 generalize ruleS (L.drop n) = RES at H1 H2 H3 H4 ⊢
 generalize signB 58 (wAt L (n + 1)) = c58 at H2 H3 H4 HSg HK6
 unfold Wd.agg8 at hW HT
 generalize wAt L n = x at hW HT HNx H1 H2 H3 H4
 obtain ⟨xk, xt, xp⟩ := x
 simp only at hW HT HNx H1 H2 H3 H4
 have hfd := wfld0 xk xt xp
 clear hI hG hS
 by_cases hk : xk = 1
 · have hb : (xk == 1) = true := by simp [hk]
   have hbn : (xk != 1) = false := by simp [hk]
   have hn1 := HNx.out (by omega)
   have HSg2 := Lib.hid (HSg.out hn1)
   replace HK6 := Lib.hid (HK6.out hn1)
   replace H2 := Lib.hid (H2.out hk)
   replace H3 := Lib.hid (H3.out hk)
   replace H4 := Lib.hid (H4.out hk)
   clear hk H1 HSg HNx
   go_enter Tryd.func57, Tryd.ntmps57
   go_upto_region 3 with (first | (go_at_call 28; (with_reducible refine hW.out.mono ?_); rintro e w1 ⟨rfl, hw1⟩))
   have h1 := h.ahead hw1
   have HT1 := Lib.hid (HT.out _ h1)
   go_upto_region 4 with (first | (go_at_call 92; (with_reducible refine HT1.out.mono ?_); rintro e w2 ⟨rfl, h2, ht2⟩))
   have hT3 := ((Turns.of_below (S := only a) hw1).trans ht2 (fun _ _ h => h)).alloc (.cells #[.int .i64 xk, .string xt, .int .i64 xp] 76)
   have h3 := h2.ahead ((Below.refl w2.heap.size w2).alloc (Nat.le_refl _) (.cells #[.int .i64 xk, .string xt, .int .i64 xp] 76))
   have E3 := heap_made w2 #[.int .i64 xk, .string xt, .int .i64 xp] 76 _ rfl
   have hEw : w.heap.size ≤ w2.heap.size := Nat.le_trans hw1.size ht2.size
   generalize hEE : w2.heap.size = E at E3 hEw ⊢
   generalize w2.alloc (.cells #[.int .i64 xk, .string xt, .int .i64 xp] 76) = w3 at hT3 h3 E3 ⊢
   clear hEE h1 h2 ht2 hw1 HT1 HT hW h
   have HSg3 := Lib.hid (HSg2.out _ h3)
   clear HSg2
   cases c58 with
   | false =>
     have HF := Lib.hid (H2.out rfl)
     clear H2 H3 H4 HK6
     go_wp2_with (first | (go_at_call 95; (with_reducible refine HSg3.out.mono ?_); rintro e w4 ⟨rfl, h4, ht4⟩))
     go_ret
     exact Or.inr ⟨n + 1, rv, HF.out, hn1, by simp, h4, (hT3.trans ht4 (fun _ _ h => h)).mono (fun b _ h => .inl h)⟩
   | true =>
     have hn2 := HK6.out rfl
     replace H3 := Lib.hid (H3.out rfl)
     replace H4 := Lib.hid (H4.out rfl)
     clear H2 HK6
     have haE : a ≠ E := by omega
     go_upto_region 6 with (first | (go_at_call 95; (with_reducible refine HSg3.out.mono ?_); rintro e w4 ⟨rfl, h4, ht4⟩))
     have h4' : RdAt w0 w4 a wv (n + 2) hp pro dv rv := h4
     have E4 := ht4.heap E3 (show ¬ only a E from fun e => haE e.symm)
     obtain ⟨e0, e1, e2, g0, g1, g2⟩ := box3 E4
     have hT4 := hT3.trans ht4 (fun _ _ h => h)
     clear h4 ht4 hT3 h3 E3 HSg3
     go_upto_block 0 with fail
     have D5 := heap_made w4 #[.string xt, .slice none 0 0, .int .i64 xp] 37 _ rfl
     have h5 := h4'.ahead ((Below.refl w4.heap.size w4).alloc (Nat.le_refl _) (.cells #[.string xt, .slice none 0 0, .int .i64 xp] 37))
     have hT5 := hT4.alloc (.cells #[.string xt, .slice none 0 0, .int .i64 xp] 37)
     have hs5 : w4.heap.size + 1 ≤ (w4.alloc (.cells #[.string xt, .slice none 0 0, .int .i64 xp] 37)).heap.size := by simp
     have hDw := hT4.size
     generalize hDD : w4.heap.size = D at D5 hs5 hDw ⊢
     generalize w4.alloc (.cells #[.string xt, .slice none 0 0, .int .i64 xp] 37) = w5 at D5 h5 hT5 hs5 ⊢
     clear hDD h4' e0 e1 e2 g0 g1 g2 E4 hT4
     have hDa : D ≠ a := by omega
     go_cut [] from 21 to 36 (fun wx => ∃ (m : Nat) (sv : Value) (ys : List Value) (S : Nat → Prop) (acc : List Al), RdAt w0 wx a wv m hp pro dv rv ∧ Turns (only a) w wx ∧ wx.heap[D]? = some (.cells #[.string xt, sv, .int .i64 xp] 37 (0, 0)) ∧ D + 1 ≤ wx.heap.size ∧ GrowL (D + 1) 42 6 alR S wx sv ys acc ∧ Hid (∀ b, S b → D + 1 ≤ b) ∧ Hid (altsS [] (L.drop (n + 2)) = .ok acc (L.drop m)) ∧ m < L.length ∧ n < m ∧ acc.length ≤ 100000)
     case first =>
      go_wp2_with fail
      go_loopg [] L.length (fun gg V => ∃ (m : Nat) (sv : Value) (ys : List Value) (S : Nat → Prop) (acc : List Al), L.length ≤ m + gg ∧ RdAt w0 V a wv m hp pro dv rv ∧ Turns (only a) w V ∧ V.heap[D]? = some (.cells #[.string xt, sv, .int .i64 xp] 37 (0, 0)) ∧ D + 1 ≤ V.heap.size ∧ GrowL (D + 1) 42 6 alR S V sv ys acc ∧ Hid (∀ b, S b → D + 1 ≤ b) ∧ Hid (altsS [] (L.drop (n + 2)) = altsS acc (L.drop m)) ∧ m < L.length ∧ n < m ∧ acc.length ≤ m)
      case atStart => exact ⟨n + 2, _, [], _, [], by omega, h5, hT5, D5, hs5, GrowL.nil _ _ _ _ _, Lib.hid (fun _ h => h.elim), Lib.hid rfl, hn2, by omega, Nat.zero_le _⟩
      case round =>
       clear h5 hT5 D5 hs5
       obtain ⟨m, sv, ys, S, acc, hgg, hR, hT, hD, hDs, hg, HS, HX, hm, hnm, hal⟩ := hrel
       rename World => V
       have hAl := Lib.hid (alt_any HI.out hR hm)
       have HB3 : Hid (∀ r, altS (L.drop m) = .bad r → RES = .bad r) := Lib.hid (fun r e => H3.out r (HX.out.trans (alts_bad e)))
       have HL1 : Hid (∀ x q, altS (L.drop m) = .ok x (L.drop q) → signB 124 (wAt L q) = false → altsS [] (L.drop (n + 2)) = .ok (acc ++ [x]) (L.drop q)) := Lib.hid (fun x q e e2 => HX.out.trans (alts_last e e2))
       have HL2 : Hid (∀ x q, altS (L.drop m) = .ok x (L.drop q) → q < L.length → signB 124 (wAt L q) = true → altsS [] (L.drop (n + 2)) = altsS (acc ++ [x]) (L.drop (q + 1))) := Lib.hid (fun x q e hq e2 => HX.out.trans (alts_more e hq e2))
       clear HX
       have HTT := Lib.hid hT
       go_upto_region 8 with (first | (go_at_call 96; (with_reducible refine hAl.out.mono ?_); rintro e V1 hpost; rcases hpost with ⟨⟨alp, ⟨pn, pl, pm, pp⟩, alq⟩, q, pv, S1, e1, hq0, hmq, rfl, hF1, hS1, ⟨pa, pk, pc, rfl⟩, hR1, ht1⟩ | ⟨q, e1, hq, rfl, hR1, ht1⟩; (try unfold altV)))
       · have hF2 := hF1.below ((Below.refl V1.heap.size V1).alloc (Nat.le_refl _) (.cells #[.slice pa pk pc, .string pn, .bool pl, .int .i64 pm, .int .i64 pp, .int .i64 alq] 42))
         have h2 := hR1.ahead ((Below.refl V1.heap.size V1).alloc (Nat.le_refl _) (.cells #[.slice pa pk pc, .string pn, .bool pl, .int .i64 pm, .int .i64 pp, .int .i64 alq] 42))
         have hTw := (HTT.out.trans ht1 (fun _ _ h => h)).alloc (.cells #[.slice pa pk pc, .string pn, .bool pl, .int .i64 pm, .int .i64 pp, .int .i64 alq] 42)
         have E2 := heap_made V1 #[.slice pa pk pc, .string pn, .bool pl, .int .i64 pm, .int .i64 pp, .int .i64 alq] 42 _ rfl
         have D2 := heap_keep V1 (.cells #[.slice pa pk pc, .string pn, .bool pl, .int .i64 pm, .int .i64 pp, .int .i64 alq] 42) (ht1.heap hD (show ¬ only a D from hDa))
         have hdk : ∀ b, (S b ∨ sv.ownBlock = some b) → D + 1 ≤ b := fun b hb => hb.elim (HS.out b) (fun h => own_base hg.own (Nat.le_refl _) b h)
         have hg2 : GrowL (D + 1) 42 6 alR S (V1.alloc (.cells #[.slice pa pk pc, .string pn, .bool pl, .int .i64 pm, .int .i64 pp, .int .i64 alq] 42)) sv ys acc := (hg.keep (w' := V1) (fun b hb => ht1.block b (hg.lt b hb) (fun e => by unfold only at e; have := hdk b hb; omega))).below ((Below.refl V1.heap.size V1).alloc (Nat.le_refl _) (.cells #[.slice pa pk pc, .string pn, .bool pl, .int .i64 pm, .int .i64 pp, .int .i64 alq] 42))
         have hsV := ht1.size
         have hS2 : ∀ b, S1 b → V.heap.size ≤ b := hS1
         have hsE : V1.heap.size < (V1.alloc (.cells #[.slice pa pk pc, .string pn, .bool pl, .int .i64 pm, .int .i64 pp, .int .i64 alq] 42)).heap.size := by simp
         have HG2 := Lib.hid (And.intro hg2 hg)
         generalize hEE : V1.heap.size = E2b at E2 hsE ⊢
         have hDE : D < E2b := by omega
         clear hEE
         generalize V1.alloc (.cells #[.slice pa pk pc, .string pn, .bool pl, .int .i64 pm, .int .i64 pp, .int .i64 alq] 42) = V2 at hF2 h2 hTw E2 D2 hg2 hsE HG2 ⊢
         clear hF1 hR1 ht1 hR hT hD HTT hS1 hAl HB3
         have HF2 := Lib.hid hF2
         have HSb := Lib.hid hdk
         have HS1 : Hid (∀ b, S1 b → V.heap.size ≤ b) := Lib.hid hS2
         have HFar : Hid (∀ k, sv.ownBlock = some k → ¬ S1 k) := Lib.hid (fun k hk h => by have := HG2.out.2.lt k (.inr hk); have := HS1.out k h; omega)
         clear hF2 hdk hS2
         have HE1 := Lib.hid e1
         clear e1
         have hown := hg2.own
         have hne : some D ≠ sv.ownBlock := fun h => by have := HSb.out D (.inr h.symm); omega
         obtain ⟨i0, hi, iz0, iz1, iz2⟩ := rd_info rdInfoAlt
         obtain ⟨e0, e1, e2, e3, e4, e5, _⟩ := box6 E2
         have d1 : V2.cell? ⟨D, 1, none⟩ = some sv := cell_of_row _ _ 1 _ _ _ D2
         have a1 := rdCell_alloc d1 (.cells #[.slice pa pk pc, .string pn, .bool pl, .int .i64 pm, .int .i64 pp, .int .i64 alq] 42)
         have fr1 := free_of_block (j := 1) (heap_keep _ (.cells #[.slice pa pk pc, .string pn, .bool pl, .int .i64 pm, .int .i64 pp, .int .i64 alq] 42) D2)
         go_upto_region 11 with (first | (refine wpList_append_lies _ (by rfl) _ _ _ (by rfl) (D + 1) 42 i0 (.agg #[.slice none 0 0, .string ByteArray.empty, .bool false, .int .i64 0, .int .i64 0, .int .i64 0]) 6 72 Tryd.underlying35 hi iz0 iz1 iz2 rfl (by omega) sv acc.length ys (by rfl) (hown.alloc _) ⟨V2.heap.size, 0, none⟩ 1 1 [.slice pa pk pc, .string pn, .bool pl, .int .i64 pm, .int .i64 pp, .int .i64 alq] (by rfl) (by rfl) (rd_news V2 _ _) (by simp [Value.oneCell']) (by omega) (by unfold maxLen; omega) (by omega) (by simp; omega) (V2.heap.size + 1) (by simp) ?_; intro gg cap w9 hown9 hgrow9 hat hlt9; have f9 : w9.cell? ⟨D, 1, none⟩ = some sv := hgrow9.cell a1 hne; have r9 := (hgrow9.frozen_far ⟨D, 1, none⟩ (show D < (V2.alloc _).heap.size from by simp; omega) hne).trans fr1))
         have k9 := (Below.refl V2.heap.size V2).alloc (Nat.le_refl _) (.cells #[.slice pa pk pc, .string pn, .bool pl, .int .i64 pm, .int .i64 pp, .int .i64 alq] 42)
         have hpu := GrowL.box (j := 1) (x := (⟨alp, ⟨pn, pl, pm, pp⟩, alq⟩ : Al)) (cs := [.slice pa pk pc, .string pn, .bool pl, .int .i64 pm, .int .i64 pp, .int .i64 alq]) (R := alR) hg2 k9 hown9 hgrow9 (own_new hat (by simp)) rfl
          (Firm.imp (HF2.out.below k9) (fun w' hw' => ⟨.slice pa pk pc, rfl, hw'⟩)) HFar.out (Nat.lt_succ_self D) D2 (fun b hb => by rcases hb with hb | hb; (have := HSb.out b (.inl hb); omega); (have := HS1.out b hb; omega))
         have hq := hpu.2.2.1 w.heap.size (by omega)
         have hqD := hpu.2.2.1 D (Nat.le_refl _)
         have h9 := (h2.ahead k9).far hq ha hlt
         have hT9 := (hTw.far (k9.mono hTw.size)).far hq
         have hs9 : D + 1 ≤ (w9.setCell ⟨D, 1, none⟩ (.slice (some ⟨gg, 0, none⟩) (acc.length + 1) cap)).heap.size := by have := hqD.size; simp at this ⊢; omega
         have HS9 : Hid (∀ b, (S b ∨ S1 b) → D + 1 ≤ b) := Lib.hid (fun b hb => by rcases hb with hb | hb; (have := HSb.out b (.inl hb); omega); (have := HS1.out b hb; omega))
         clear hq hqD k9 d1 a1 fr1 f9 r9 e0 e1 e2 e3 e4 e5 hown hown9 hgrow9 h2 hTw D2 E2 HG2 hg2 hg
         generalize w9.setCell ⟨D, 1, none⟩ (.slice (some ⟨gg, 0, none⟩) (acc.length + 1) cap) = W at hpu h9 hT9 hs9 ⊢
         have hTS := Lib.hid (takeSign_any HI.out h9 hq0 124)
         have HQN : Hid (signB 124 (wAt L q) = true → q + 1 < L.length) := Lib.hid (fun e => HI.out.ok.next hq0 (by rw [signB_kind e]; decide))
         replace HL1 : Hid (signB 124 (wAt L q) = false → _) := Lib.hid (HL1.out _ q HE1.out)
         replace HL2 : Hid (signB 124 (wAt L q) = true → _) := Lib.hid (HL2.out _ q HE1.out hq0)
         generalize signB 124 (wAt L q) = cb at hTS HL1 HL2 HQN
         cases cb with
         | false =>
           have HE := Lib.hid (HL1.out rfl)
           go_wp2_with (first | (go_at_call 95; (with_reducible refine hTS.out.mono ?_); rintro e w4 ⟨rfl, h4, ht4⟩))
           have hg4 := hpu.1.keep (fun b hb => ht4.block b (hpu.1.lt b hb) (fun e => by unfold only at e; have : D + 1 ≤ b := hb.elim (HS9.out b) (fun h => own_base hpu.1.own (Nat.le_refl _) b h); omega))
           have D4 := ht4.heap hpu.2.1 (show ¬ only a D from hDa)
           have s4 := ht4.size
           go_meet
           case rel => exact ⟨q, _, _, _, _, h4, hT9.trans ht4 (fun _ _ h => h), D4, by omega, hg4, HS9, HE, hq0, by omega, by simp; omega⟩
         | true =>
           have HE := Lib.hid (HL2.out rfl)
           have hq1 := HQN.out rfl
           go_wp2_with (first | (go_at_call 95; (with_reducible refine hTS.out.mono ?_); rintro e w4 ⟨rfl, h4, ht4⟩))
           have hg4 := hpu.1.keep (fun b hb => ht4.block b (hpu.1.lt b hb) (fun e => by unfold only at e; have : D + 1 ≤ b := hb.elim (HS9.out b) (fun h => own_base hpu.1.own (Nat.le_refl _) b h); omega))
           have D4 := ht4.heap hpu.2.1 (show ¬ only a D from hDa)
           have s4 := ht4.size
           go_roundg (L.length - (q + 1))
           case rel => exact ⟨q + 1, _, _, _, _, by omega, h4, hT9.trans ht4 (fun _ _ h => h), D4, by omega, hg4, HS9, HE, hq1, by omega, by simp; omega⟩
           case measure => omega
       · have HF := Lib.hid (HB3.out _ e1)
         clear e1 HB3 HL1 HL2
         go_wp2_with fail
         go_ret
         exact Or.inr ⟨q, rv, HF.out, hq, by simp, hR1.ahead ((Below.refl _ _).alloc (Nat.le_refl _) _), ((HTT.out.trans ht1 (fun _ _ h => h)).alloc _).mono (fun b _ h => .inl h)⟩
     case rest =>
      clear D5 h5 hT5 hs5
      obtain ⟨m, sv, ys, S, acc, hR, hT, hD, hDs, hg, HS, HE, hm, hnm, hal⟩ := hcut
      rename World => V
      obtain ⟨sa, sc, rfl⟩ := rd_slice hg.own
      have hTS := Lib.hid (takeSign_any HI.out hR hm 59)
      have HF : Hid (RES = .ok ⟨xt, acc, xp⟩ (L.drop (if signB 59 (wAt L m) = true then m + 1 else m))) := Lib.hid (by
       rw [H4.out _ _ HE.out]
       cases h9 : signB 59 (wAt L m) with
       | true => rw [semi_yes h9, if_pos rfl]
       | false => rw [semi_no h9, if_neg (by decide)])
      have hq : (if signB 59 (wAt L m) = true then m + 1 else m) < L.length := by
       split
       · rename_i e; exact HI.out.ok.next hm (by rw [signB_kind e]; decide)
       · exact hm
      have hqn : n < (if signB 59 (wAt L m) = true then m + 1 else m) := by split <;> omega
      generalize (if signB 59 (wAt L m) = true then m + 1 else m) = q at hTS HF hq hqn
      generalize signB 59 (wAt L m) = c59 at hTS
      clear H3 H4 HE
      have hdk : ∀ b, (S b ∨ (Value.slice sa acc.length sc).ownBlock = some b) → D + 1 ≤ b := fun b hb => hb.elim (HS.out b) (fun h => own_base hg.own (Nat.le_refl _) b h)
      have HTT := Lib.hid hT
      go_upto_region 13 with (first | (go_at_call 95; (with_reducible refine hTS.out.mono ?_); rintro e V1 ⟨rfl, h1, ht1⟩))
      have hg1 := hg.keep (w' := V1) (fun b hb => ht1.block b (hg.lt b hb) (fun e => by unfold only at e; have := hdk b hb; omega))
      have hD1 := ht1.heap hD (show ¬ only a D from hDa)
      have hT1 := HTT.out.trans ht1 (fun _ _ h => h)
      have hgw : GrowL B 37 3 rlR Sr V1 rv xs rs := HG.out.1.keep (fun b hb => hT1.block b (HG.out.1.lt b hb) (fun e => by unfold only at e; have : B ≤ b := hb.elim (HG.out.2 b) (fun h => own_base HG.out.1.own (Nat.le_refl _) b h); omega))
      have HFm := Lib.hid (hg1.firm (by omega))
      have HGB := Lib.hid hdk
      have HT1 := Lib.hid hT1
      have HGV := Lib.hid hgw
      have hs1 := hT1.size
      clear hg hg1 hD hT HTT hR hdk ht1 hT1 hTS
      have hown := hgw.own
      have hod := fun g (h : rv.ownBlock = some g) => own_base hown (Nat.le_refl _) g h
      have hne : some a ≠ rv.ownBlock := fun h => by have := hod a h.symm; omega
      obtain ⟨i0, hi, iz0, iz1, iz2⟩ := rd_info rdInfoRule
      obtain ⟨_, _, _, _, _, c5, _⟩ := h1.cells
      have f5 := h1.free 5
      obtain ⟨d0, d1, d2, _⟩ := box3 hD1
      have c5a := rdCell_alloc c5 (.cells #[.string xt, .slice sa acc.length sc, .int .i64 xp] 37)
      have f5a : (V1.alloc (.cells #[.string xt, .slice sa acc.length sc, .int .i64 xp] 37)).frozen? ⟨a, 5, none⟩ = false := free_of_block (heap_keep _ _ h1.row)
      have haV := h1.lt
      have HR := Lib.hid h1
      clear h1 hgw
      go_region_law (first
       | (refine step_append_lies _ (by rfl) _ _ _ (by rfl) B 37 i0 (.agg #[.string ByteArray.empty, .slice none 0 0, .int .i64 0]) 3 48 Tryd.underlying27 hi iz0 iz1 iz2 rfl (by omega) rv rs.length xs (by rfl) (by first | exact hown.drew.alloc _ | exact (hown.alloc _).drew)
           ⟨V1.heap.size, 0, none⟩ 1 1 [.string xt, .slice sa acc.length sc, .int .i64 xp] (by rfl) (by rfl) (by first | exact rd_news V1.drew _ _ | exact rd_news V1 _ _) (by simp [Value.oneCell'])
           (by omega) (by unfold maxLen; omega) (by omega) (by simp; omega) (V1.heap.size + 1) (by simp) ?_;
          intro gg cap w9 hown9 hgrow9 hat hlt9;
          have f9 : w9.cell? ⟨a, 5, none⟩ = some rv := hgrow9.cell c5a hne;
          have r9 : w9.frozen? ⟨a, 5, none⟩ = false := (hgrow9.frozen_far ⟨a, 5, none⟩ (show a < (V1.alloc _).heap.size from by simp; omega) hne).trans f5a))
      all_goals
       go_wp2_with fail
       have kO : Below V1.heap.size V1 (V1.alloc (.cells #[.string xt, .slice sa acc.length sc, .int .i64 xp] 37)).drew := ((Below.refl V1.heap.size V1).alloc (Nat.le_refl _) _).drew
       have hpu := GrowL.box (j := 5) (B := a) (x := (⟨xt, acc, xp⟩ : Rl)) (cs := [.string xt, .slice sa acc.length sc, .int .i64 xp]) (R := rlR) HGV.out (w := (V1.alloc (.cells #[.string xt, .slice sa acc.length sc, .int .i64 xp] 37)).drew) kO hown9 hgrow9 (own_new hat (by simp)) rfl
        (Firm.imp (HFm.out.below kO) (fun w' hw' => ⟨.slice sa acc.length sc, rfl, hw'⟩)) (fun g hg' hS' => by have h1 := HGB.out g hS'; have h2 := (HG.out.1.own.lt g hg').2; omega) haB HR.out.row (fun b hb => by rcases hb with hb | hb; (have := HG.out.2 b hb; omega); (have := HGB.out b hb; omega))
       have hbl := hpu.2.2.1 a (Nat.le_refl _)
       have hbl0 := hpu.2.2.1 w0.heap.size HI.out.lt
       go_ret
       exact Or.inl ⟨⟨xt, acc, xp⟩, q, _, _, _, HF.out, hq, hqn, by simp, ⟨(HR.out.below.trans (kO.mono HR.out.below.size)).trans hbl0, hpu.2.1⟩, hpu.1, fun b hb => hb.elim (HG.out.2 b) (fun hb => by have := HGB.out b hb; omega),
        ⟨hbl.os.trans (kO.os.trans HT1.out.os), hbl.tape.trans (kO.tape.trans HT1.out.tape), hbl.output.trans (kO.output.trans HT1.out.output), Nat.le_trans HT1.out.size (Nat.le_trans kO.size hbl.size), fun b hb hnb => by
         unfold beh at hnb
         have hb1 : b ≠ a := fun e => hnb (.inl e)
         have hb2 : b < B := Nat.lt_of_not_le (fun e => hnb (.inr e))
         exact (hpu.2.2.2 b (by have := kO.size; omega) hb1 hb2).trans ((kO.block b (by omega)).trans (HT1.out.block b hb hb1))⟩⟩
 · have hb : (xk == 1) = false := by simp [hk]
   have hbn : (xk != 1) = true := by simp [hk]
   have HF := Lib.hid (H1.out hk)
   clear hk H1 H2 H3 H4 HT HSg HK6 HNx
   go_enter Tryd.func57, Tryd.ntmps57
   go_wp2_with (first | (go_at_call 28; (with_reducible refine hW.out.mono ?_); rintro e w1 ⟨rfl, hw1⟩))
   go_ret
   exact Or.inr ⟨n, rv, HF.out, hn, by simp, h.ahead hw1, (Turns.of_below hw1)⟩
end
end Go.Proofs.YtnoppoifepbchaaDoor
