/- The reader: the declarations. -/
import Derived.Test.YtnoppoifepbchaaDoorRd4
namespace Go.Proofs.YtnoppoifepbchaaDoor

open Go.RowKit
set_option linter.unusedVariables false
set_option linter.unusedSimpArgs false

section
variable {L : Wds} {n : Nat} {P : ByteArray} {b : Bool} {ds : List Dc}
theorem decls_mark (hn : n < L.length) (h : (wAt L n).kind = 7) : declsS P b ds (L.drop n) = .ok (P, ds) (L.drop (n + 1)) := by
 rw [drop_eq hn, declsS, if_pos h]
theorem decls_pro (hn : n < L.length) (h : (wAt L n).kind = 9) : declsS P false ds (L.drop n) = declsS (wAt L n).text true ds (L.drop (n + 1)) := by
 rw [drop_eq hn, declsS, if_neg (by omega), if_pos ⟨h, rfl⟩]
theorem decls_pro2 (hn : n < L.length) (h : (wAt L n).kind = 9) : declsS P true ds (L.drop n) = .bad (L.drop n) := by
 rw [drop_eq hn, declsS, if_neg (by omega), if_neg (by simp), if_neg (by omega)]
theorem decls_ok (hn : n < L.length) (h : (wAt L n).kind = 5) (hk : keyN (wAt L n).text ≠ 0) {d : Dc} {r : Wds} (e : declS (keyN (wAt L n).text) (wAt L n) (L.drop (n + 1)) = .ok d r) : declsS P b ds (L.drop n) = declsS P b (ds ++ [d]) r := by
 rw [drop_eq hn, declsS, if_neg (by omega), if_neg (by omega), if_pos ⟨h, hk⟩]
 split
 · rename_i d' r' h2
   rw [e] at h2
   cases h2; rfl
 · rename_i r' h2
   rw [e] at h2
   cases h2
theorem decls_bad (hn : n < L.length) (h : (wAt L n).kind = 5) (hk : keyN (wAt L n).text ≠ 0) {r : Wds} (e : declS (keyN (wAt L n).text) (wAt L n) (L.drop (n + 1)) = .bad r) : declsS P b ds (L.drop n) = .bad r := by
 rw [drop_eq hn, declsS, if_neg (by omega), if_neg (by omega), if_pos ⟨h, hk⟩]
 split
 · rename_i d' r' h2
   rw [e] at h2
   cases h2
 · rename_i r' h2
   rw [e] at h2
   cases h2; rfl
theorem decls_none (hn : n < L.length) (h7 : (wAt L n).kind ≠ 7) (h9 : (wAt L n).kind ≠ 9) (h5 : ¬ ((wAt L n).kind = 5 ∧ keyN (wAt L n).text ≠ 0)) : declsS P b ds (L.drop n) = .bad (L.drop n) := by
 rw [drop_eq hn, declsS, if_neg h7, if_neg (fun h => h9 h.1), if_neg h5]
theorem keyN_bd (t : ByteArray) : 0 ≤ keyN t ∧ keyN t ≤ 6 := by
 unfold keyN
 split; decide
 split; decide
 split; decide
 split; decide
 split; decide
 split; decide
 decide
end

def DeclStep (w0 : World) (a : Nat) (wv : Value) (rv : Value) (L : Wds) (B : Nat) (ds : List Dc) (n : Nat) (RES : Rd (ByteArray × List Dc)) (w : World) (e : Ending) (w' : World) : Prop :=
 (∃ P' b' ds' m dv' xs' Sd', RES = declsS P' b' ds' (L.drop m) ∧ m < L.length ∧ n < m ∧ ds'.length ≤ ds.length + 1 ∧ e = .returned (.bool true) ∧ RdAt w0 w' a wv m b' P' dv' rv ∧ GrowL B 51 4 dcR Sd' w' dv' xs' ds' ∧ (∀ b, Sd' b → B ≤ b) ∧ Turns (beh a B) w w') ∨
 (∃ m b' P' dv', RES = .bad (L.drop m) ∧ m < L.length ∧ e = .returned (.bool false) ∧ RdAt w0 w' a wv m b' P' dv' rv ∧ Turns (beh a B) w w')

section
variable {w0 w : World} {a : Nat} {wv : Value} {n : Nat} {hp : Bool} {pro : ByteArray} {dv rv : Value} {L : Wds}
theorem RdAt.setPro (h : RdAt w0 w a wv n hp pro dv rv) (hI : RdIn w0 wv L a) (b : Bool) : RdAt w0 (w.setCell ⟨a, 2, none⟩ (.bool b)) a wv n b pro dv rv ∧ Turns (only a) w (w.setCell ⟨a, 2, none⟩ (.bool b)) :=
 ⟨⟨h.below.setCell (p := ⟨a, 2, none⟩) hI.lt _, block_setCell h.row⟩, (Turns.refl (only a) w).setCell (p := ⟨a, 2, none⟩) (.inl rfl) _⟩
theorem RdAt.setText (h : RdAt w0 w a wv n hp pro dv rv) (hI : RdIn w0 wv L a) (t : ByteArray) : RdAt w0 (w.setCell ⟨a, 3, none⟩ (.string t)) a wv n hp t dv rv ∧ Turns (only a) w (w.setCell ⟨a, 3, none⟩ (.string t)) :=
 ⟨⟨h.below.setCell (p := ⟨a, 3, none⟩) hI.lt _, block_setCell h.row⟩, (Turns.refl (only a) w).setCell (p := ⟨a, 3, none⟩) (.inl rfl) _⟩

set_option maxRecDepth 100000 in
set_option maxHeartbeats 4000000 in
theorem decl_any (HA : Hid AtoiOk) (hI : RdIn w0 wv L a) (h : RdAt w0 w a wv n hp pro dv rv) (hn : n < L.length) (h7 : (wAt L n).kind ≠ 7)
  {B : Nat} {ds : List Dc} {xs : List Value} {Sd : Nat → Prop} (hG : GrowL B 51 4 dcR Sd w dv xs ds) (hS : ∀ b, Sd b → B ≤ b) (haB : a < B) (hB : B ≤ w.heap.size) (hlen : ds.length ≤ 100000) :
  Calls Tryd.prog 56 #[.pointer (some ⟨a, 0, none⟩)] w (DeclStep w0 a wv rv L B ds n (declsS pro hp ds (L.drop n)) w) := by
 have ha := h.lt
 have hlt := h.below.size
 have HI := Lib.hid hI
 have hW := Lib.hid (word_any hI h hn)
 have HG := Lib.hid (And.intro hG hS)
 have HT := Lib.hid (fun (V : World) (b : Bool) (hV : RdAt w0 V a wv n b pro dv rv) => rdTake_any hI hV hn)
 have hL6 := hI.ok.len
 have HX : Hid ((wAt L n).kind ≠ 10 → n + 1 < L.length) := Lib.hid (fun h => hI.ok.next hn h)
 have HPro : Hid (hp = false → (wAt L n).kind = 9 → declsS pro hp ds (L.drop n) = declsS (wAt L n).text true ds (L.drop (n + 1))) := Lib.hid (fun e h9 => by subst e; exact decls_pro hn h9)
 have HPro2 : Hid (hp = true → (wAt L n).kind = 9 → declsS pro hp ds (L.drop n) = .bad (L.drop n)) := Lib.hid (fun e h9 => by subst e; exact decls_pro2 hn h9)
 have HNone : Hid ((wAt L n).kind ≠ 9 → ¬ ((wAt L n).kind = 5 ∧ keyN (wAt L n).text ≠ 0) → declsS pro hp ds (L.drop n) = .bad (L.drop n)) := Lib.hid (fun h9 h5 => decls_none hn h7 h9 h5)
 have HOk : Hid ((wAt L n).kind = 5 → keyN (wAt L n).text ≠ 0 → ∀ d r, declS (keyN (wAt L n).text) (wAt L n) (L.drop (n + 1)) = .ok d r → declsS pro hp ds (L.drop n) = declsS pro hp (ds ++ [d]) r) := Lib.hid (fun h5 hk d r e => decls_ok hn h5 hk e)
 have HBad : Hid ((wAt L n).kind = 5 → keyN (wAt L n).text ≠ 0 → ∀ r, declS (keyN (wAt L n).text) (wAt L n) (L.drop (n + 1)) = .bad r → declsS pro hp ds (L.drop n) = .bad r) := Lib.hid (fun h5 hk r e => decls_bad hn h5 hk e)
 have HO : Hid ((wAt L n).kind = 5 → keyN (wAt L n).text ≠ 0 → ∀ V : World, Below w.heap.size w V → Calls Tryd.prog 94 #[.pointer (some ⟨a, 0, none⟩), .int .i64 (keyN (wAt L n).text)] V (DeclGo w0 a wv hp pro dv rv L B ds (keyN (wAt L n).text) n V)) :=
  Lib.hid (fun h5 hk V hV => declOf_any HA hI (h.ahead hV) hn h5 _ (by have := keyN_bd (wAt L n).text; omega) (keyN_bd _).2 (hG.below hV) hS haB (Nat.le_trans hB hV.size) hlen)
 have hKey := Lib.hid (fun W => declKind_any (wAt L n).text W)
 unfold DeclGo at HO
 generalize declsS pro hp ds (L.drop n) = RES at HPro HPro2 HNone HOk HBad ⊢
 generalize hdk : declS (keyN (wAt L n).text) (wAt L n) (L.drop (n + 1)) = DK at HOk HBad HO
 clear hdk
 generalize keyN (wAt L n).text = K at hKey HNone HOk HBad HO
 unfold Wd.agg8 at hW HT
 generalize wAt L n = x at hW HT HX HPro HPro2 HNone HOk HBad HO hKey h7
 obtain ⟨xk, xt, xp⟩ := x
 simp only at hW HT HX HPro HPro2 HNone HOk HBad HO hKey h7
 have hfx1 := wfld1 xk xt xp
 clear hI hG hS
 by_cases h9 : xk = 9
 · have hb9 : (xk == 9) = true := by simp [h9]
   have hn1 := HX.out (by omega)
   have H9 := Lib.hid h9
   clear h9 h7
   go_enter Tryd.func56, Tryd.ntmps56
   go_upto_region 2 with (first | (go_at_call 28; (with_reducible refine hW.out.mono ?_); rintro e w1 ⟨rfl, hw1⟩))
   have hb1 := hw1.alloc hw1.size (.cells #[.int .i64 xk, .string xt, .int .i64 xp] 76)
   have r1 := heap_made w1 #[.int .i64 xk, .string xt, .int .i64 xp] 76 _ rfl
   have hs1 := hw1.size
   have hs2 : w1.heap.size < (w1.alloc (.cells #[.int .i64 xk, .string xt, .int .i64 xp] 76)).heap.size := by simp
   have na : w1.heap.size ≠ a := by omega
   generalize w1.alloc (.cells #[.int .i64 xk, .string xt, .int .i64 xp] 76) = w2 at hb1 r1 hs2 ⊢
   have h2 := h.ahead hb1
   have HO2 : Hid (xk = 5 → K ≠ 0 → _) := Lib.hid (fun e1 e2 => HO.out e1 e2 w2 hb1)
   obtain ⟨u0, u1, u2, v0, v1, v2⟩ := box3 r1
   clear HO hW
   obtain ⟨_, _, c2, _⟩ := h2.cells
   have f2 := h2.free 2
   have f3 := h2.free 3
   cases hp with
   | true =>
     go_wp2_with fail
     go_ret
     exact Or.inr ⟨n, true, pro, dv, HPro2.out (by simp) H9.out, by omega, by simp, h2, (Turns.of_below hb1).mono (fun b _ h => h)⟩
   | false =>
     go_upto_region 7 with fail
     obtain ⟨h3, ht3⟩ := h2.setPro HI.out true
     have HT3 := Lib.hid (HT.out _ _ h3)
     generalize w2.setCell ⟨a, 2, none⟩ (.bool true) = w3 at h3 ht3 HT3 ⊢
     clear c2 f2 f3 h2 u0 u1 u2 v0 v1 v2
     go_wp2_with (first | (go_at_call 92; (with_reducible refine HT3.out.mono ?_); rintro e w4 ⟨rfl, h4, ht4⟩; have f4 := h4.free 3; obtain ⟨_, _, _, c4, _⟩ := h4.cells))
     obtain ⟨h5, ht5⟩ := h4.setText HI.out xt
     have hT := ((((Turns.of_below hb1).trans ht3 (S := only a) (fun _ _ h => h)).trans ht4 (fun _ _ h => h)).trans ht5 (fun _ _ h => h))
     go_ret
     exact Or.inl ⟨xt, true, ds, n + 1, dv, xs, Sd, HPro.out (by simp) H9.out, hn1, Nat.lt_succ_self _, Nat.le_succ _, by simp, h5, HG.out.1.keep (fun b hb => hT.block b (HG.out.1.lt b hb) (fun e => by unfold only at e; have : B ≤ b := hb.elim (HG.out.2 b) (fun h => own_base HG.out.1.own (Nat.le_refl _) b h); omega)), HG.out.2, hT.mono (fun b _ h => .inl h)⟩
 · have hb9 : (xk == 9) = false := by simp [h9]
   by_cases h5 : xk = 5
   · have hb5 : (xk == 5) = true := by simp [h5]
     by_cases hk : K = 0
     · have hbk : (K == 0) = true := by simp [hk]
       have HF := Lib.hid (HNone.out h9 (fun h => h.2 hk))
       clear h5 h9 h7 hk
       go_enter Tryd.func56, Tryd.ntmps56
       go_upto_region 2 with (first | (go_at_call 28; (with_reducible refine hW.out.mono ?_); rintro e w1 ⟨rfl, hw1⟩))
       have hb1 := hw1.alloc hw1.size (.cells #[.int .i64 xk, .string xt, .int .i64 xp] 76)
       have r1 := heap_made w1 #[.int .i64 xk, .string xt, .int .i64 xp] 76 _ rfl
       have hs1 := hw1.size
       have hs2 : w1.heap.size < (w1.alloc (.cells #[.int .i64 xk, .string xt, .int .i64 xp] 76)).heap.size := by simp
       have na : w1.heap.size ≠ a := by omega
       generalize w1.alloc (.cells #[.int .i64 xk, .string xt, .int .i64 xp] 76) = w2 at hb1 r1 hs2 ⊢
       have h2 := h.ahead hb1
       have HO2 : Hid (xk = 5 → K ≠ 0 → _) := Lib.hid (fun e1 e2 => HO.out e1 e2 w2 hb1)
       obtain ⟨u0, u1, u2, v0, v1, v2⟩ := box3 r1
       clear HO hW
       go_wp2_with (first | (go_at_call 93; (with_reducible refine (hKey.out _).mono ?_); rintro e w4 ⟨rfl, rfl⟩))
       go_ret
       exact Or.inr ⟨n, hp, pro, dv, HF.out, by omega, by simp, h2, (Turns.of_below hb1).mono (fun b _ h => h)⟩
     · have hbk : (K == 0) = false := by simp [hk]
       have HF := Lib.hid (HOk.out h5 hk)
       have HF2 := Lib.hid (HBad.out h5 hk)
       have HK := Lib.hid (And.intro h5 hk)
       clear h5 h9 h7 hk
       go_enter Tryd.func56, Tryd.ntmps56
       go_upto_region 2 with (first | (go_at_call 28; (with_reducible refine hW.out.mono ?_); rintro e w1 ⟨rfl, hw1⟩))
       have hb1 := hw1.alloc hw1.size (.cells #[.int .i64 xk, .string xt, .int .i64 xp] 76)
       have r1 := heap_made w1 #[.int .i64 xk, .string xt, .int .i64 xp] 76 _ rfl
       have hs1 := hw1.size
       have hs2 : w1.heap.size < (w1.alloc (.cells #[.int .i64 xk, .string xt, .int .i64 xp] 76)).heap.size := by simp
       have na : w1.heap.size ≠ a := by omega
       generalize w1.alloc (.cells #[.int .i64 xk, .string xt, .int .i64 xp] 76) = w2 at hb1 r1 hs2 ⊢
       have h2 := h.ahead hb1
       have HO2 : Hid (xk = 5 → K ≠ 0 → _) := Lib.hid (fun e1 e2 => HO.out e1 e2 w2 hb1)
       obtain ⟨u0, u1, u2, v0, v1, v2⟩ := box3 r1
       clear HO hW
       have HO3 := Lib.hid (HO2.out HK.out.1 HK.out.2)
       clear HO2
       go_wp2_with (first | (go_at_call 93; (with_reducible refine (hKey.out _).mono ?_); rintro e w4 ⟨rfl, rfl⟩) | (go_at_call 94; (with_reducible refine HO3.out.mono ?_); rintro e w5 hpost; rcases hpost with ⟨d, m, dv', xs', Sd', e1, hm, hnm, rfl, h5, hg5, hs5, ht5⟩ | ⟨m, e1, hm, rfl, h5, ht5⟩))
       · go_ret
         exact Or.inl ⟨pro, hp, ds ++ [d], m, dv', xs', Sd', HF.out d _ e1, hm, hnm, by simp, by simp, h5, hg5, hs5, (Turns.of_below hb1).trans ht5 (fun _ _ h => h)⟩
       · go_ret
         exact Or.inr ⟨m, hp, pro, dv, HF2.out _ e1, hm, by simp, h5, (Turns.of_below hb1).trans ht5 (fun _ _ h => h)⟩
   · have hb5 : (xk == 5) = false := by simp [h5]
     have HF := Lib.hid (HNone.out h9 (fun h => h5 h.1))
     clear h5 h9 h7
     go_enter Tryd.func56, Tryd.ntmps56
     go_upto_region 2 with (first | (go_at_call 28; (with_reducible refine hW.out.mono ?_); rintro e w1 ⟨rfl, hw1⟩))
     have hb1 := hw1.alloc hw1.size (.cells #[.int .i64 xk, .string xt, .int .i64 xp] 76)
     have r1 := heap_made w1 #[.int .i64 xk, .string xt, .int .i64 xp] 76 _ rfl
     have hs1 := hw1.size
     have hs2 : w1.heap.size < (w1.alloc (.cells #[.int .i64 xk, .string xt, .int .i64 xp] 76)).heap.size := by simp
     have na : w1.heap.size ≠ a := by omega
     generalize w1.alloc (.cells #[.int .i64 xk, .string xt, .int .i64 xp] 76) = w2 at hb1 r1 hs2 ⊢
     have h2 := h.ahead hb1
     have HO2 : Hid (xk = 5 → K ≠ 0 → _) := Lib.hid (fun e1 e2 => HO.out e1 e2 w2 hb1)
     obtain ⟨u0, u1, u2, v0, v1, v2⟩ := box3 r1
     clear HO hW
     go_wp2_with fail
     go_ret
     exact Or.inr ⟨n, hp, pro, dv, HF.out, by omega, by simp, h2, (Turns.of_below hb1).mono (fun b _ h => h)⟩

def DeclsGo (w0 : World) (a : Nat) (wv : Value) (rv : Value) (L : Wds) (B : Nat) (n : Nat) (RES : Rd (ByteArray × List Dc)) (w : World) (e : Ending) (w' : World) : Prop :=
 (∃ P b ds m dv xs Sd, RES = .ok (P, ds) (L.drop m) ∧ m < L.length ∧ n < m ∧ e = .returned (.bool true) ∧ RdAt w0 w' a wv m b P dv rv ∧ GrowL B 51 4 dcR Sd w' dv xs ds ∧ (∀ b, Sd b → B ≤ b) ∧ Turns (beh a B) w w') ∨
 (∃ m b P dv, RES = .bad (L.drop m) ∧ m < L.length ∧ e = .returned (.bool false) ∧ RdAt w0 w' a wv m b P dv rv ∧ Turns (beh a B) w w')

set_option maxRecDepth 100000 in
set_option maxHeartbeats 4000000 in
theorem decls_any (HA : Hid AtoiOk) (hI : RdIn w0 wv L a) (h : RdAt w0 w a wv n false ByteArray.empty (.slice none 0 0) rv) (hn : n < L.length) {B : Nat} (haB : a < B) (hB : B ≤ w.heap.size) :
  Calls Tryd.prog 26 #[.pointer (some ⟨a, 0, none⟩)] w (DeclsGo w0 a wv rv L B n (declsS ByteArray.empty false [] (L.drop n)) w) := by
 have hL6 := hI.ok.len
 have HI := Lib.hid hI
 generalize hR : declsS ByteArray.empty false [] (L.drop n) = RES
 have HR := Lib.hid hR
 clear hR hI
 go_enter Tryd.func26, Tryd.ntmps26
 go_wp2_with fail
 go_loopg [] L.length (fun gg V => ∃ (P : ByteArray) (b : Bool) (ds : List Dc) (m : Nat) (dv : Value) (xs : List Value) (Sd : Nat → Prop), L.length ≤ m + gg ∧ ds.length + n ≤ m ∧ Hid (declsS P b ds (L.drop m) = RES) ∧ m < L.length ∧ RdAt w0 V a wv m b P dv rv ∧ GrowL B 51 4 dcR Sd V dv xs ds ∧ Hid (∀ b, Sd b → B ≤ b) ∧ Turns (beh a B) w V)
 case atStart => exact ⟨_, _, [], n, _, [], _, by omega, by simp, HR, hn, h, GrowL.nil _ _ _ _ _, Lib.hid (fun _ h => h.elim), Turns.refl _ _⟩
 case round =>
  clear h hn HR
  obtain ⟨P, b, ds, m, dv, xs, Sd, hgg, hdl, HE, hm, hV, hG, hS, hT⟩ := hrel
  rename World => V
  have hW := Lib.hid (word_any HI.out hV hm)
  have hVs := hT.size
  by_cases h7 : (wAt L m).kind = 7
  · have HF : Hid (RES = .ok (P, ds) (L.drop (m + 1))) := Lib.hid (HE.out.symm.trans (decls_mark hm h7))
    have hm1 := HI.out.ok.next hm (by omega)
    unfold Wd.agg8 at hW
    generalize wAt L m = x at hW h7
    obtain ⟨xk, xt, xp⟩ := x
    simp only at hW h7
    have hfd := wfld0 xk xt xp
    have hb7 : (xk == 7) = true := by simp [h7]
    have hb7n : (xk != 7) = false := by simp [h7]
    clear h7 HE
    have HG := Lib.hid hG
    clear hG
    go_wp2_with (first | (go_at_call 28; (with_reducible refine hW.out.mono ?_); rintro e w1 ⟨rfl, hw1⟩; have h1 := hV.ahead hw1; have f1 := h1.free 1; obtain ⟨_, c1, _⟩ := h1.cells))
    obtain ⟨h2, ht2⟩ := h1.move HI.out (m + 1)
    have hT2 := (hT.trans (Turns.of_below (S := only a) hw1) (fun b _ h => Or.inl h)).trans ht2 (fun b _ h => Or.inl h)
    have hG2 := (HG.out.below hw1).keep (fun b hb => ht2.block b ((HG.out.below hw1).lt b hb) (fun e => by unfold only at e; have : B ≤ b := hb.elim (hS.out b) (fun h => own_base HG.out.own (Nat.le_refl _) b h); omega))
    go_ret
    exact Or.inl ⟨P, b, ds, m + 1, dv, xs, Sd, HF.out, hm1, by omega, by simp, h2, hG2, hS.out, hT2⟩
  · have HD := Lib.hid (fun (V' : World) (hV' : Below V.heap.size V V') => decl_any HA HI.out (hV.ahead hV') hm h7 (hG.below hV') hS.out haB (by have := hV'.size; omega) (by omega))
    unfold Wd.agg8 at hW
    generalize wAt L m = x at hW h7
    obtain ⟨xk, xt, xp⟩ := x
    simp only at hW h7
    have hfd := wfld0 xk xt xp
    have hb7 : (xk == 7) = false := by simp [h7]
    have hb7n : (xk != 7) = true := by simp [h7]
    clear h7
    unfold DeclStep at HD
    have HG := Lib.hid hG
    clear hG
    go_wp2_with (first | (go_at_call 28; (with_reducible refine hW.out.mono ?_); rintro e w1 ⟨rfl, hw1⟩) | (go_at_call 56; (with_reducible refine (HD.out _ hw1).mono ?_); rintro e w5 hpost; rcases hpost with ⟨P', b', ds', m', dv', xs', Sd', e1, hm', hnm, hdl', rfl, h5, hg5, hs5, ht5⟩ | ⟨m', b', P', dv', e1, hm', rfl, h5, ht5⟩))
    · have hT2 := (hT.trans (Turns.of_below (S := only a) hw1) (fun b _ h => Or.inl h)).trans ht5 (fun b _ h => h)
      have HE2 := Lib.hid (e1.symm.trans HE.out)
      have HS5 := Lib.hid hs5
      clear e1 hs5
      go_roundg (L.length - m')
      case rel => exact ⟨P', b', ds', m', dv', xs', Sd', by omega, by omega, HE2, hm', h5, hg5, HS5, hT2⟩
      case measure => omega
    · have hT2 := (hT.trans (Turns.of_below (S := only a) hw1) (fun b _ h => Or.inl h)).trans ht5 (fun b _ h => h)
      have HE2 := Lib.hid (HE.out.symm.trans e1)
      clear e1
      go_ret
      exact Or.inr ⟨m', b', P', dv', HE2.out, hm', by simp, h5, hT2⟩
end
end Go.Proofs.YtnoppoifepbchaaDoor
