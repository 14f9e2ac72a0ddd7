/- Words of declarations and rules: print's. -/
import Derived.Test.YtnoppoifepbchaaDoorPlD
import Derived.Deep.CutRange
namespace Go.Proofs.YtnoppoifepbchaaDoor

open Go.RowKit
set_option linter.unusedVariables false
set_option linter.unusedSimpArgs false

theorem grown_cell {w w' : World} {row : Option Nat} {p : Addr} {u : Value} (h : w.grownBy w' row) (hc : w.cell? p = some u) (hne : row ≠ some p.block) : w'.cell? p = some u := by
 rw [World.cell?_of_block (h.block p.block (World.block_lt_of_cell? _ _ hc) (fun e => hne e.symm))]; exact hc
theorem flat_one {α : Type} (f : α → List ByteArray) {l : List α} {k : Nat} {x : α} (hx : l[k]? = some x) : (l.take (k + 1)).flatMap f = (l.take k).flatMap f ++ f x := by
 obtain ⟨hk, rfl⟩ := List.getElem?_eq_some_iff.1 hx
 rw [List.take_succ_eq_append_getElem hk, List.flatMap_append]; simp

set_option maxRecDepth 100000 in
set_option maxHeartbeats 8000000 in
theorem declWords_any (v : Value) (d : Dc) (w : World) (h : DcV w v d) (hs : d.tag.size ≤ 1000000) (ht : ∀ x ∈ d.syms, SmTx x ∧ 0 ≤ x.num ∧ x.num ≤ 50000) (hf : d.syms.length ≤ 401) (hE : Env w) :
  Calls Tryd.prog 39 #[v] w fun e w' => (∃ v, e = .returned v ∧ OwnS w.heap.size w' v (keyS d.kind :: declTl d)) ∧ Below w.heap.size w w' := by
 obtain ⟨pv, rfl, h⟩ := h
 obtain ⟨a1, n, c, rfl, hn, hc, hm, hx⟩ := h.open
 have HR : Hid (keyS d.kind :: declTl d = [keyS d.kind] ++ (if d.tag.size = 0 then [] else [⟨#[60]⟩ ++ d.tag ++ ⟨#[62]⟩]) ++ d.syms.flatMap declSm) := Lib.hid (by unfold declTl; simp)
 have HP := Lib.hid ht
 have HE := Lib.hid hE
 have hn100 : n ≤ 401 := by rw [hn.out]; exact hf
 generalize keyS d.kind :: declTl d = R at HR ⊢
 obtain ⟨kd, tg, sy, po⟩ := d
 simp only at *
 clear h ht hf hc hm hE
 obtain ⟨i0, hi, hz0, hz1, hz2⟩ := info_parts Tryd.infoStr
 have hba := (Below.refl w.heap.size w).alloc (Nat.le_refl _) (.cells #[.int .i64 kd, .string tg, .slice a1 n c, .int .i64 po] 51)
 have HC := Lib.hid (fun W hW => box1 (w := w) (A := #[.int .i64 kd, .string tg, .slice a1 n c, .int .i64 po]) (T := 51) (W := W) hW)
 go_enter Tryd.func39, Tryd.ntmps39
 go_upto_if 12 with (first | (go_at_call 59; refine (key_any _ _).mono ?_; rintro e w' ⟨rfl, rfl⟩))
 have hown0 : OwnS (w.heap.size + 1) ((w.alloc (.cells #[.int .i64 kd, .string tg, .slice a1 n c, .int .i64 po] 51)).alloc (.cells #[.string (keyS kd)] 9)) (.slice (some ⟨w.heap.size + 1, 0, none⟩) 1 1) [keyS kd] := by
  have := OwnS.new1 (base := w.heap.size + 1) (w := w.alloc (.cells #[.int .i64 kd, .string tg, .slice a1 n c, .int .i64 po] 51)) (keyS kd) (by simp)
  rwa [World.size_alloc] at this
 have hb0 : Below (w.alloc (.cells #[.int .i64 kd, .string tg, .slice a1 n c, .int .i64 po] 51)).heap.size (w.alloc (.cells #[.int .i64 kd, .string tg, .slice a1 n c, .int .i64 po] 51)) ((w.alloc (.cells #[.int .i64 kd, .string tg, .slice a1 n c, .int .i64 po] 51)).alloc (.cells #[.string (keyS kd)] 9)) := (Below.refl _ _).alloc (Nat.le_refl _) _
 generalize (w.alloc (.cells #[.int .i64 kd, .string tg, .slice a1 n c, .int .i64 po] 51)).alloc (.cells #[.string (keyS kd)] 9) = wK at hown0 hb0 ⊢
 generalize keyS kd = K at hown0 HR ⊢
 go_cut [3] from 12 to 19 (fun s wx => ∃ l : List ByteArray, OwnS (w.heap.size + 1) wx s l ∧ Hid (l = [K] ++ (if tg.size = 0 then [] else [⟨#[60]⟩ ++ tg ++ ⟨#[62]⟩])) ∧ l.length ≤ 2 ∧ Below (w.alloc (.cells #[.int .i64 kd, .string tg, .slice a1 n c, .int .i64 po] 51)).heap.size (w.alloc (.cells #[.int .i64 kd, .string tg, .slice a1 n c, .int .i64 po] 51)) wx)
 case first =>
  have q1 := HC.out wK hb0 1 _ rfl
  clear hx HP HC HR
  by_cases h0 : tg.size = 0
  · have d1 : (!tg.toList.isEmpty) = false := by rw [str_empty h0]; rfl
    rw [d1]
    go_wp2_with fail
    go_meet
    case rel => exact ⟨[K], hown0, Lib.hid (by rw [if_pos h0]; rfl), by simp, hb0⟩
  · have d1 : (!tg.toList.isEmpty) = true := by rw [str_some h0]; rfl
    have e1 : (⟨#[60]⟩ : ByteArray).size = 1 := rfl
    have e2 : (⟨#[62]⟩ : ByteArray).size = 1 := rfl
    have hl1 : [K].length = 1 := rfl
    rw [d1]
    go_wp2_with (first | (at_builtin; refine wpList_append_src rfl _ _ 47 rfl (w.heap.size + 1) 9 i0 (.string ByteArray.empty) 1 16 Tryd.underlying47 hi hz0 hz1 hz2 rfl (by decide) _ _ _ rfl (hown0.alloc _) _ (1) _ rfl (src_at _ (.string _) _ _ rfl) (by first | rfl | simp) (strs_one [_]) ?c3 ?c4 ?c5 ?_))
    case c3 => unfold maxLen; simp
    case c4 => simp
    case c5 => have h9 := hb0.size; rw [World.size_alloc] at h9 ⊢; omega
    have hs9 := hb0.size
    rw [World.size_alloc] at hs9
    intro v' w4 hown' hgrow
    have hz4 := (hb0.alloc (by simp; omega) _).grown hgrow (by simp; omega) (own_base hown0 (by simp))
    go_wp2_with fail
    go_meet
    case rel => exact ⟨[K] ++ [⟨#[60]⟩ ++ tg ++ ⟨#[62]⟩], OwnS.one hown', Lib.hid (by rw [if_neg h0]), by simp, hz4⟩
 case rest =>
  obtain ⟨l0, hown1, hl0, hll, hb1⟩ := hcut
  have q2 := HC.out wc hb1 2 _ rfl
  clear hown0 hb0
  go_wp2_with fail
  go_loopw [23, 3] (fun i s wr => ∃ (k : Nat) (l : List ByteArray), k ≤ n ∧ i = .int .i64 k ∧ l.length ≤ 2 + 2 * k ∧ OwnS (w.heap.size + 1) wr s l ∧ Below (w.alloc (.cells #[.int .i64 kd, .string tg, .slice a1 n c, .int .i64 po] 51)).heap.size (w.alloc (.cells #[.int .i64 kd, .string tg, .slice a1 n c, .int .i64 po] 51)) wr ∧ Hid (l = l0 ++ (sy.take k).flatMap declSm)) (fun i _ _ => n - (intOf i).toNat)
  case atStart => exact ⟨0, l0, Nat.zero_le _, rfl, by omega, hown1, hb1, Lib.hid (by simp)⟩
  case round =>
   clear q2 hown1 hb1
   obtain ⟨k, l, hk, rfl, hlk, hown, hbr, hp⟩ := hrel
   rename World => wr
   have hbw := hba.trans (hbr.mono hba.size)
   have hbs := hbr.size
   rw [World.size_alloc] at hbs
   by_cases hlt : k < n
   · obtain ⟨b, o, x, rfl, ex, u0, u1, u2, u3⟩ := hx.out k hlt
     have hb1 := World.block_lt_of_cell? _ _ u0
     replace u0 := (hbw.cell (p := ⟨b, o + k * 4, none⟩) hb1).trans u0
     replace u1 := (hbw.cell (p := ⟨b, o + k * 4 + 1, none⟩) hb1).trans u1
     replace u2 := (hbw.cell (p := ⟨b, o + k * 4 + 2, none⟩) hb1).trans u2
     replace u3 := (hbw.cell (p := ⟨b, o + k * 4 + 3, none⟩) hb1).trans u3
     have hu := HP.out x (mem_at ex)
     have hu0 := hu.2.1
     have hu5 := hu.2.2
     have HQ := Lib.hid (fun W => psymText_any x W hu.1)
     have HI := Lib.hid (fun (W : World) (hW : Below w.heap.size w W) => itoa_any x.num W hu.2.1 (by have := hu.2.2; omega) (HE.out.below hW))
     have HM : Hid (l ++ (symT x :: (if x.num = 0 then [] else [numT x.num])) = l0 ++ (sy.take (k + 1)).flatMap declSm) := Lib.hid (by
      rw [flat_one declSm ex, ← List.append_assoc, ← hp.out]; rfl)
     generalize symT x = sT at HQ HM
     obtain ⟨un, ul, um, up⟩ := x
     simp only [Sm.agg] at u0 u1 u2 u3 HQ HM HI hu0 hu5
     generalize numT um = nT at HI HM
     have i1 : (k : Int) < (n : Int) := by omega
     have hbx := (Below.refl wr.heap.size wr).alloc (Nat.le_refl _) (.cells #[.string un, .bool ul, .int .i64 um, .int .i64 up] 40)
     have hown2 := hown.below hbx
     have hrx := hbr.trans (hbx.mono hbr.size)
     have hwx := hbw.trans (hbx.mono hbw.size)
     have hU2 : (wr.alloc (.cells #[.string un, .bool ul, .int .i64 um, .int .i64 up] 40)).cell? ⟨wr.heap.size, 2, none⟩ = some (.int .i64 um) := cell_top wr _ _ _ 2 rfl
     have hlto := fun j hj => (hown.lt j hj).2
     clear ex hx HP hu hp
     by_cases hm0 : um = 0
     · have f0 : (um != 0) = false := by simp; omega
       have HM2 : Hid (l ++ [sT] = l0 ++ (sy.take (k + 1)).flatMap declSm) := Lib.hid (by rw [← HM.out, if_pos hm0])
       clear hm0 HM HI
       go_wp2_with (first | (go_at_call 71; refine (HQ.out _).mono ?_; rintro e w9 ⟨rfl, hb9⟩; have hown9 := hown2.below hb9) | (at_builtin; refine wpList_append_src rfl _ _ 47 rfl (w.heap.size + 1) 9 i0 (.string ByteArray.empty) 1 16 Tryd.underlying47 hi hz0 hz1 hz2 rfl (by decide) _ _ _ rfl (hown9.alloc _) _ (1) _ rfl (src_at _ (.string _) _ _ rfl) (by first | rfl | simp) (strs_one [_]) ?c3 ?c4 ?c5 ?_))
       case c3 => unfold maxLen; omega
       case c4 => omega
       case c5 => have hs9 := hb9.size; rw [World.size_alloc] at hs9 ⊢; omega
       have hs9 := hb9.size
       rw [World.size_alloc] at hs9
       intro v' w4 hown' hgrow
       have hz4 := ((hrx.trans (hb9.mono hrx.size)).alloc (by simp; omega) _).grown hgrow (by simp; omega) (own_base hown9 (by simp))
       have c2 := grown_cell hgrow (cell_alloc ((hb9.cell (World.block_lt_of_cell? _ _ hU2)).trans hU2) _) (fun e => Nat.lt_irrefl _ (hlto _ e))
       go_wp2_with fail
       go_roundw
       case rel => exact ⟨k + 1, l ++ [sT], by omega, by go_num, by simp; omega, OwnS.one hown', hz4, HM2⟩
       case measure => simp [intOf]; omega
     · have f0 : (um != 0) = true := by simp; omega
       have HM2 : Hid (l ++ [sT] ++ [nT] = l0 ++ (sy.take (k + 1)).flatMap declSm) := Lib.hid (by rw [← HM.out, if_neg hm0]; simp)
       clear hm0 HM
       go_wp2_with (first | (go_at_call 71; refine (HQ.out _).mono ?_; rintro e w9 ⟨rfl, hb9⟩; have hown9 := hown2.below hb9) | (at_builtin; refine wpList_append_src rfl _ _ 47 rfl (w.heap.size + 1) 9 i0 (.string ByteArray.empty) 1 16 Tryd.underlying47 hi hz0 hz1 hz2 rfl (by decide) _ _ _ rfl (hown9.alloc _) _ (1) _ rfl (src_at _ (.string _) _ _ rfl) (by first | rfl | simp) (strs_one [_]) ?c3 ?c4 ?c5 ?_))
       case c3 => unfold maxLen; omega
       case c4 => omega
       case c5 => have hs9 := hb9.size; rw [World.size_alloc] at hs9 ⊢; omega
       have hs9 := hb9.size
       rw [World.size_alloc] at hs9
       intro v' w4 hown' hgrow
       have hz4 := ((hrx.trans (hb9.mono hrx.size)).alloc (by simp; omega) _).grown hgrow (by simp; omega) (own_base hown9 (by simp))
       have c2 := grown_cell hgrow (cell_alloc ((hb9.cell (World.block_lt_of_cell? _ _ hU2)).trans hU2) _) (fun e => Nat.lt_irrefl _ (hlto _ e))
       have hown4 := OwnS.one hown'
       have hll4 : (l ++ [sT]).length = l.length + 1 := by simp
       generalize l ++ [sT] = l4 at hown4 HM2 hll4
       have hw4 := hba.trans (hz4.mono hba.size)
       have hs4 := hz4.size
       rw [World.size_alloc] at hs4
       clear hown' hgrow hU2
       go_wp2_with (first | (go_at_call 72; refine (HI.out _ hw4).mono ?_; rintro e w5 ⟨rfl, hb5⟩; have hown5 := hown4.below hb5) | (at_builtin; refine wpList_append_src rfl _ _ 47 rfl (w.heap.size + 1) 9 i0 (.string ByteArray.empty) 1 16 Tryd.underlying47 hi hz0 hz1 hz2 rfl (by decide) _ _ _ rfl (hown5.alloc _) _ (1) _ rfl (src_at _ (.string _) _ _ rfl) (by first | rfl | simp) (strs_one [_]) ?c3 ?c4 ?c5 ?_))
       case c3 => unfold maxLen; omega
       case c4 => omega
       case c5 => have hs5 := hb5.size; rw [World.size_alloc]; omega
       have hs5 := hb5.size
       intro v'' w6 hown6 hgrow6
       have hz6 := ((hz4.trans (hb5.mono hz4.size)).alloc (by simp; omega) _).grown hgrow6 (by simp; omega) (own_base hown5 (by simp))
       go_wp2_with fail
       go_roundw
       case rel => exact ⟨k + 1, l4 ++ [nT], by omega, by go_num, by simp; omega, OwnS.one (by rw [hll4]; exact hown6), hz6, HM2⟩
       case measure => simp [intOf]; omega
   · have e1 : sy.take k = sy := List.take_of_length_le (by have := hn.out; omega)
     rw [e1] at hp
     clear hx HP
     go_wp2_with fail
     go_ret
     have hR : R = l := by rw [HR.out, hp.out, hl0.out]
     exact ⟨⟨_, rfl, by rw [hR]; exact own_weaken hown (by omega)⟩, hbw⟩

theorem bar_one {l : List Al} {k : Nat} {x : Al} (hx : l[k]? = some x) : barL (l.take (k + 1)) = barL (l.take k) ++ (if k = 0 then [] else [⟨#[124]⟩]) ++ altL x := by
 cases l with
 | nil => simp at hx
 | cons a l =>
   cases k with
   | zero =>
     obtain rfl : a = x := by simpa using hx
     simp [barL]
   | succ k =>
     have hx' : l[k]? = some x := by simpa using hx
     rw [List.take_succ_cons, List.take_succ_cons, barL, barL, flat_one _ hx', if_neg (by omega)]
     simp
theorem altL_len (a : Al) (h : a.parts.length ≤ 401) : (altL a).length ≤ 403 := by
 unfold altL
 split <;> simp <;> omega
theorem OwnS.many {base : Nat} {w : World} {v : Value} {l m : List ByteArray} (h : w.ownsRow base 9 1 v (l.length + m.length) (l.map Value.string ++ m.map Value.string)) : OwnS base w v (l ++ m) := by
 unfold OwnS; simpa using h

set_option maxRecDepth 100000 in
set_option maxHeartbeats 8000000 in
theorem ruleWords_any (v : Value) (r : Rl) (w : World) (h : RlV w v r) (hs : RlSmall r) (ht : ∀ a ∈ r.alts, AlTx a) (hf : RlFew r) :
  Calls Tryd.prog 40 #[v] w fun e w' => (∃ v, e = .returned v ∧ OwnS w.heap.size w' v (r.left :: ruleTl r)) ∧ Below w.heap.size w w' := by
 obtain ⟨pv, rfl, h⟩ := h
 obtain ⟨a1, n, c, rfl, hn, hc, hm, hx⟩ := h.open
 have HR : Hid (r.left :: ruleTl r = [r.left, ⟨#[58]⟩] ++ barL r.alts ++ [⟨#[59]⟩]) := Lib.hid (by unfold ruleTl; simp)
 have HP := Lib.hid (fun a ha => And.intro (hs.2 a ha) (And.intro (ht a ha) (hf.2 a ha)))
 have hn100 : n ≤ 401 := by rw [hn.out]; exact hf.1
 generalize r.left :: ruleTl r = R at HR ⊢
 obtain ⟨lf, ls, po⟩ := r
 simp only at *
 clear h hs ht hf hc hm
 obtain ⟨i0, hi, hz0, hz1, hz2⟩ := info_parts Tryd.infoStr
 have hba := (Below.refl w.heap.size w).alloc (Nat.le_refl _) (.cells #[.string lf, .slice a1 n c, .int .i64 po] 37)
 go_enter Tryd.func40, Tryd.ntmps40
 go_wp2_with fail
 go_loopw [12, 3] (fun i s wr => ∃ (k : Nat) (l : List ByteArray), k ≤ n ∧ i = .int .i64 k ∧ l.length ≤ 2 + 404 * k ∧ OwnS (w.heap.size + 1) wr s l ∧ Below (w.alloc (.cells #[.string lf, .slice a1 n c, .int .i64 po] 37)).heap.size (w.alloc (.cells #[.string lf, .slice a1 n c, .int .i64 po] 37)) wr ∧ Hid (l = [lf, ⟨#[58]⟩] ++ barL (ls.take k))) (fun i _ _ => n - (intOf i).toNat)
 case atStart =>
  have hown0 : OwnS (w.heap.size + 1) ((w.alloc (.cells #[.string lf, .slice a1 n c, .int .i64 po] 37)).alloc (.cells #[.string lf, .string ⟨#[58]⟩] 9)) (.slice (some ⟨w.heap.size + 1, 0, none⟩) 2 2) [lf, ⟨#[58]⟩] := by
   have := OwnS.new2 (base := w.heap.size + 1) (w := w.alloc (.cells #[.string lf, .slice a1 n c, .int .i64 po] 37)) lf ⟨#[58]⟩ (by simp)
   rwa [World.size_alloc] at this
  exact ⟨0, _, Nat.zero_le _, rfl, by simp, hown0, (Below.refl _ _).alloc (Nat.le_refl _) _, Lib.hid (by simp [barL])⟩
 case round =>
  obtain ⟨k, l, hk, rfl, hlk, hown, hbr, hp⟩ := hrel
  rename World => wr
  have hbw := hba.trans (hbr.mono hba.size)
  have hbs := hbr.size
  rw [World.size_alloc] at hbs
  by_cases hlt : k < n
  · obtain ⟨b, o, x, pu, rfl, ex, hpu, u0, u1, u2, u3, u4, u5⟩ := hx.out k hlt
    obtain ⟨ay, ny, cy, rfl, _⟩ := hpu.open
    have hb1 := World.block_lt_of_cell? _ _ u0
    replace u0 := (hbw.cell (p := ⟨b, o + k * 6, none⟩) hb1).trans u0
    replace u1 := (hbw.cell (p := ⟨b, o + k * 6 + 1, none⟩) hb1).trans u1
    replace u2 := (hbw.cell (p := ⟨b, o + k * 6 + 2, none⟩) hb1).trans u2
    replace u3 := (hbw.cell (p := ⟨b, o + k * 6 + 3, none⟩) hb1).trans u3
    replace u4 := (hbw.cell (p := ⟨b, o + k * 6 + 4, none⟩) hb1).trans u4
    replace u5 := (hbw.cell (p := ⟨b, o + k * 6 + 5, none⟩) hb1).trans u5
    have hu := HP.out x (mem_at ex)
    have hal := altL_len x hu.2.2
    have HQ := Lib.hid (fun (W : World) (hW : Below w.heap.size w W) => altWords_any (.agg #[.slice ay ny cy, .string x.prec.name, .bool x.prec.lit, .int .i64 x.prec.num, .int .i64 x.prec.pos, .int .i64 x.pos]) x W ⟨_, rfl, hpu.below hW⟩ hu.1 hu.2.1 hu.2.2)
    have HM : Hid (l ++ (if k = 0 then [] else [⟨#[124]⟩]) ++ altL x = [lf, ⟨#[58]⟩] ++ barL (ls.take (k + 1))) := Lib.hid (by
     rw [bar_one ex, hp.out]; simp)
    generalize altL x = aL at HQ HM hal
    obtain ⟨uq, ⟨un, ul, um, up⟩, ua⟩ := x
    simp only at u0 u1 u2 u3 u4 u5 HQ
    have i1 : (k : Int) < (n : Int) := by omega
    have hbx := (Below.refl wr.heap.size wr).alloc (Nat.le_refl _) (.cells #[.slice ay ny cy, .string un, .bool ul, .int .i64 um, .int .i64 up, .int .i64 ua] 42)
    have hown2 := hown.below hbx
    have hrx := hbr.trans (hbx.mono hbr.size)
    have hwx := hbw.trans (hbx.mono hbw.size)
    have C0 : (wr.alloc (.cells #[.slice ay ny cy, .string un, .bool ul, .int .i64 um, .int .i64 up, .int .i64 ua] 42)).cell? ⟨wr.heap.size, 0, none⟩ = some (.slice ay ny cy) := cell_top wr _ _ _ 0 rfl
    have C1 : (wr.alloc (.cells #[.slice ay ny cy, .string un, .bool ul, .int .i64 um, .int .i64 up, .int .i64 ua] 42)).cell? ⟨wr.heap.size, 1, none⟩ = some (.string un) := cell_top wr _ _ _ 1 rfl
    have C2 : (wr.alloc (.cells #[.slice ay ny cy, .string un, .bool ul, .int .i64 um, .int .i64 up, .int .i64 ua] 42)).cell? ⟨wr.heap.size, 2, none⟩ = some (.bool ul) := cell_top wr _ _ _ 2 rfl
    have C3 : (wr.alloc (.cells #[.slice ay ny cy, .string un, .bool ul, .int .i64 um, .int .i64 up, .int .i64 ua] 42)).cell? ⟨wr.heap.size, 3, none⟩ = some (.int .i64 um) := cell_top wr _ _ _ 3 rfl
    have C4 : (wr.alloc (.cells #[.slice ay ny cy, .string un, .bool ul, .int .i64 um, .int .i64 up, .int .i64 ua] 42)).cell? ⟨wr.heap.size, 4, none⟩ = some (.int .i64 up) := cell_top wr _ _ _ 4 rfl
    have C5 : (wr.alloc (.cells #[.slice ay ny cy, .string un, .bool ul, .int .i64 um, .int .i64 up, .int .i64 ua] 42)).cell? ⟨wr.heap.size, 5, none⟩ = some (.int .i64 ua) := cell_top wr _ _ _ 5 rfl
    have hlto := fun j hj => (hown.lt j hj).2
    clear ex hx HP hu hp hpu
    by_cases hk0 : k = 0
    · have f0 : ¬ (0 : Int) < (k : Int) := by omega
      have HM2 : Hid (l ++ aL = [lf, ⟨#[58]⟩] ++ barL (ls.take (k + 1))) := Lib.hid (by rw [← HM.out, if_pos hk0]; simp)
      clear HM
      have hk0' : k ≤ 0 := by omega
      clear hk0 C0 C1 C2 C3 C4 C5
      go_wp2_with (first | (go_at_call 73; refine (HQ.out _ hwx).mono ?_; rintro e w9 ⟨⟨v9, rfl, hv9⟩, hb9⟩; have hown9 := hown2.below hb9) | (at_builtin; refine wpList_append_src rfl _ _ 47 rfl (w.heap.size + 1) 9 i0 (.string ByteArray.empty) 1 16 Tryd.underlying47 hi hz0 hz1 hz2 rfl (by decide) _ _ _ rfl (hown9) _ (aL.length) _ rfl (hv9.src) (by first | rfl | simp) (strs_one aL) ?c3 ?c4 ?c5 ?_))
      case c3 => unfold maxLen; omega
      case c4 => omega
      case c5 => have hs9 := hb9.size; rw [World.size_alloc] at hs9; omega
      have hs9 := hb9.size
      rw [World.size_alloc] at hs9
      intro v' w4 hown' hgrow
      have hz4 := (hrx.trans (hb9.mono hrx.size)).grown hgrow (by simp; omega) (own_base hown9 (by simp))
      go_wp2_with fail
      go_roundw
      case rel => exact ⟨k + 1, l ++ aL, by omega, by go_num, by simp; omega, OwnS.many hown', hz4, HM2⟩
      case measure => simp [intOf]; omega
    · have f0 : (0 : Int) < (k : Int) := by omega
      have HM2 : Hid (l ++ [⟨#[124]⟩] ++ aL = [lf, ⟨#[58]⟩] ++ barL (ls.take (k + 1))) := Lib.hid (by rw [← HM.out, if_neg hk0])
      clear HM hk0
      go_wp2_with (first | (at_builtin; refine wpList_append_src rfl _ _ 47 rfl (w.heap.size + 1) 9 i0 (.string ByteArray.empty) 1 16 Tryd.underlying47 hi hz0 hz1 hz2 rfl (by decide) _ _ _ rfl (hown2.alloc _) _ (1) _ rfl (src_at _ (.string _) _ _ (by simp)) (by first | rfl | simp) (strs_one [_]) ?c3 ?c4 ?c5 ?_))
      case c3 => unfold maxLen; omega
      case c4 => omega
      case c5 => first | (simp; omega) | omega
      intro v' w4 hown' hgrow
      have hz4 := (hrx.alloc (by simp; omega) _).grown hgrow (by simp; omega) (own_base hown2 (by simp))
      have D0 := grown_cell hgrow (cell_alloc C0 _) (fun e => Nat.lt_irrefl _ (hlto _ e))
      have D1 := grown_cell hgrow (cell_alloc C1 _) (fun e => Nat.lt_irrefl _ (hlto _ e))
      have D2 := grown_cell hgrow (cell_alloc C2 _) (fun e => Nat.lt_irrefl _ (hlto _ e))
      have D3 := grown_cell hgrow (cell_alloc C3 _) (fun e => Nat.lt_irrefl _ (hlto _ e))
      have D4 := grown_cell hgrow (cell_alloc C4 _) (fun e => Nat.lt_irrefl _ (hlto _ e))
      have D5 := grown_cell hgrow (cell_alloc C5 _) (fun e => Nat.lt_irrefl _ (hlto _ e))
      have hown4 := OwnS.one hown'
      have hll4 : (l ++ [(⟨#[124]⟩ : ByteArray)]).length = l.length + 1 := by simp
      generalize l ++ [(⟨#[124]⟩ : ByteArray)] = l4 at hown4 HM2 hll4
      have hw4 := hba.trans (hz4.mono hba.size)
      have hs4 := hz4.size
      rw [World.size_alloc] at hs4
      clear hown' hgrow C0 C1 C2 C3 C4 C5
      go_wp2_with (first | (go_at_call 73; refine (HQ.out _ hw4).mono ?_; rintro e w9 ⟨⟨v9, rfl, hv9⟩, hb9⟩; have hown9 := hown4.below hb9) | (at_builtin; refine wpList_append_src rfl _ _ 47 rfl (w.heap.size + 1) 9 i0 (.string ByteArray.empty) 1 16 Tryd.underlying47 hi hz0 hz1 hz2 rfl (by decide) _ _ _ rfl (hown9) _ (aL.length) _ rfl (hv9.src) (by first | rfl | simp) (strs_one aL) ?c3 ?c4 ?c5 ?_))
      case c3 => unfold maxLen; omega
      case c4 => omega
      case c5 => have hs9 := hb9.size; omega
      have hs9 := hb9.size
      intro v'' w6 hown6 hgrow6
      have hz6 := (hz4.trans (hb9.mono hz4.size)).grown hgrow6 (by simp; omega) (own_base hown9 (by simp))
      go_wp2_with fail
      go_roundw
      case rel => exact ⟨k + 1, l4 ++ aL, by omega, by go_num, by simp; omega, OwnS.many (by rw [hll4]; exact hown6), hz6, HM2⟩
      case measure => simp [intOf]; omega
  · have e1 : ls.take k = ls := List.take_of_length_le (by have := hn.out; omega)
    rw [e1] at hp
    clear hx HP
    go_wp2_with (first | (at_builtin; refine wpList_append_src rfl _ _ 47 rfl (w.heap.size + 1) 9 i0 (.string ByteArray.empty) 1 16 Tryd.underlying47 hi hz0 hz1 hz2 rfl (by decide) _ _ _ rfl (hown.alloc _) _ (1) _ rfl (src_at _ (.string _) _ _ rfl) (by first | rfl | simp) (strs_one [_]) ?c3 ?c4 ?c5 ?_))
    case c3 => unfold maxLen; omega
    case c4 => omega
    case c5 => first | (simp; omega) | omega
    intro v' w4 hown' hgrow
    have hz4 := (hbr.alloc (by simp; omega) _).grown hgrow (by simp; omega) (own_base hown (by simp))
    go_wp2_with fail
    go_ret
    have hR : R = l ++ [⟨#[59]⟩] := by rw [HR.out, hp.out]
    exact ⟨⟨_, rfl, by rw [hR]; exact own_weaken (OwnS.one hown') (by omega)⟩, hba.trans (hz4.mono hba.size)⟩
end Go.Proofs.YtnoppoifepbchaaDoor
