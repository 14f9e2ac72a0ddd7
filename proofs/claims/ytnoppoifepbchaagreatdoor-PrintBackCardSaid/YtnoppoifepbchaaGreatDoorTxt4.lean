/- Lists of words: print's. -/
import Derived.Test.YtnoppoifepbchaaGreatDoorTxt1
namespace Go.Proofs.YtnoppoifepbchaaGreatDoor

open Go.RowKit
set_option linter.unusedVariables false
set_option linter.unusedSimpArgs false

theorem Tryz.infoStr : (Tryz.prog.info? 9).map (fun i => (i.zero, i.size, i.bytes)) = some (some (.string ByteArray.empty), 1, 16) := by kernel_rfl
/-- texts that a call puts together in a row of its own -/
def OwnS (base : Nat) (w : World) (v : Value) (l : List ByteArray) : Prop := w.ownsRow base 9 1 v l.length (l.map .string)
theorem strs_one (l : List ByteArray) : ∀ u ∈ l.map Value.string, u.oneCell' = true := by
 intro u hu
 obtain ⟨s, _, rfl⟩ := List.mem_map.1 hu
 rfl
theorem OwnS.nil (base : Nat) (w : World) : OwnS base w (.slice none 0 0) [] := World.ownsRow_nil _ _ _ _
theorem OwnS.below {base : Nat} {w w' : World} {v : Value} {l : List ByteArray} (h : OwnS base w v l) (hb : Below w.heap.size w w') : OwnS base w' v l := own_below h hb
theorem OwnS.new1 {base : Nat} {w : World} (y : ByteArray) (hb : base ≤ w.heap.size) : OwnS base (w.alloc (.cells #[.string y] 9)) (.slice (some ⟨w.heap.size, 0, none⟩) 1 1) [y] :=
 ⟨rfl, .inr ⟨w.heap.size, 1, _, rfl, hb, heap_alloc_new _ _, Nat.le_refl _, by unfold maxLen; omega, rfl, rfl⟩⟩
theorem OwnS.new2 {base : Nat} {w : World} (x y : ByteArray) (hb : base ≤ w.heap.size) : OwnS base (w.alloc (.cells #[.string x, .string y] 9)) (.slice (some ⟨w.heap.size, 0, none⟩) 2 2) [x, y] :=
 ⟨rfl, .inr ⟨w.heap.size, 2, _, rfl, hb, heap_alloc_new _ _, Nat.le_refl _, by unfold maxLen; omega, rfl, rfl⟩⟩
theorem OwnS.src {base : Nat} {w : World} {v : Value} {l : List ByteArray} (h : OwnS base w v l) : SrcV w v l.length (l.map .string) := by
 obtain ⟨h1, h2⟩ := h
 rcases h2 with ⟨rfl, h0⟩ | ⟨g, cap, cur, rfl, hg, hh, hn, hc, hs, ht⟩
 · exact .inl ⟨rfl, h0, by simp [List.eq_nil_of_length_eq_zero h0]⟩
 · refine .inr ⟨_, cap, rfl, fun j u hj => ?_⟩
   have hj' : j < l.length := by have := (List.getElem?_eq_some_iff.1 hj).1; simpa using this
   rw [addr_add, Nat.zero_add, cell_of_row w g j cur _ (0, 0) hh, ← hj, ← ht, List.getElem?_take, if_pos (by omega)]
   simp
theorem SrcV.below {w w' : World} {v : Value} {m : Nat} {news : List Value} (h : SrcV w v m news) (hb : Below w.heap.size w w') : SrcV w' v m news := by
 rcases h with h | ⟨ad, c, hv, hc⟩
 · exact .inl h
 · exact .inr ⟨ad, c, hv, fun j u hj => (hb.cell (World.block_lt_of_cell? _ _ (hc j u hj))).trans (hc j u hj)⟩
theorem OwnS.alloc {base : Nat} {w : World} {v : Value} {l : List ByteArray} (h : OwnS base w v l) (o : Obj) : OwnS base (w.alloc o) v l := h.below ((Below.refl _ _).alloc (Nat.le_refl _) o)
theorem src_at (w : World) (x : Value) (E : TypeId) (B : Nat) (hB : B = w.heap.size) : SrcV (w.alloc (.cells #[x] E)) (.slice (some ⟨B, 0, none⟩) 1 1) 1 [x] := by
 subst hB; exact SrcV.new w x E
theorem src_two (w : World) (x y : Value) (E : TypeId) : SrcV (w.alloc (.cells #[x, y] E)) (.slice (some ⟨w.heap.size, 0, none⟩) 2 2) 2 [x, y] := by
 refine .inr ⟨_, _, rfl, fun j u hj => ?_⟩
 match j, hj with
 | 0, hj => simp at hj; subst hj; exact cell_top w _ _ _ 0 rfl
 | 1, hj => simp at hj; subst hj; exact cell_top w _ _ _ 1 rfl
theorem OwnS.one {base : Nat} {w : World} {v : Value} {l : List ByteArray} {y : ByteArray} (h : w.ownsRow base 9 1 v (l.length + 1) (l.map Value.string ++ [.string y])) : OwnS base w v (l ++ [y]) := by
 unfold OwnS; simpa using h
theorem OwnS.two {base : Nat} {w : World} {v : Value} {l : List ByteArray} {x y : ByteArray} (h : w.ownsRow base 9 1 v (l.length + 2) (l.map Value.string ++ [.string x, .string y])) : OwnS base w v (l ++ [x, y]) := by
 unfold OwnS; simpa using h

set_option maxRecDepth 100000 in
set_option maxHeartbeats 4000000 in
theorem altWords_any (v : Value) (a : Al) (w : World) (h : AlV w v a) (hs : AlSmall a) (ht : AlTx a) (hf : a.parts.length ≤ 401) :
  Calls Tryz.prog 81 #[v] w fun e w' => (∃ v, e = .returned v ∧ OwnS w.heap.size w' v (altL a)) ∧ Below w.heap.size w w' := by
 obtain ⟨pv, rfl, h⟩ := h
 obtain ⟨a1, n, c, rfl, hn, hc, hm, hx⟩ := h.open
 have HR : Hid (altL a = a.parts.map partT ++ (if noneB a.prec = true then [] else [⟨#[37, 112, 114, 101, 99]⟩, symT a.prec])) := Lib.hid rfl
 have HN := Lib.hid (fun W => isZero_any a.prec W)
 have HT := Lib.hid (fun W (hn : noneB a.prec = false) => psymText_any a.prec W (ht.2 hn))
 have HP := Lib.hid (fun p hp => And.intro (hs.1 p hp) (ht.1 p hp))
 have hn100 : n ≤ 401 := by rw [hn.out]; exact hf
 generalize altL a = R at HR ⊢
 generalize noneB a.prec = nb at HN HR HT
 generalize symT a.prec = sT at HT HR
 obtain ⟨la, ⟨an, al, am, ap⟩, ka⟩ := a
 simp only [Sm.agg] at *
 clear h hs ht hf hc hm
 obtain ⟨i0, hi, hz0, hz1, hz2⟩ := info_parts Tryz.infoStr
 have hba := (Below.refl w.heap.size w).alloc (Nat.le_refl _) (.cells #[.slice a1 n c, .string an, .bool al, .int .i64 am, .int .i64 ap, .int .i64 ka] 62)
 have HC := Lib.hid (fun W hW => box1 (w := w) (A := #[.slice a1 n c, .string an, .bool al, .int .i64 am, .int .i64 ap, .int .i64 ka]) (T := 62) (W := W) hW)
 go_enter Tryz.func81, Tryz.ntmps81
 go_wp2_with fail
 go_loopw [9, 3] (fun i s wr => ∃ (k : Nat) (l : List ByteArray), k ≤ n ∧ i = .int .i64 k ∧ l.length ≤ k ∧ OwnS (w.heap.size + 1) wr s l ∧ Below (w.alloc (.cells #[.slice a1 n c, .string an, .bool al, .int .i64 am, .int .i64 ap, .int .i64 ka] 62)).heap.size (w.alloc (.cells #[.slice a1 n c, .string an, .bool al, .int .i64 am, .int .i64 ap, .int .i64 ka] 62)) wr ∧ Hid (l = (la.take k).map partT)) (fun i _ _ => n - (intOf i).toNat)
 case atStart => exact ⟨0, [], Nat.zero_le _, rfl, Nat.zero_le _, OwnS.nil _ _, Below.refl _ _, Lib.hid rfl⟩
 case round =>
  obtain ⟨k, l, hk, rfl, hlk, hown, hbr, hp⟩ := hrel
  have q1 := HC.out wr hbr 1 _ rfl
  have q2 := HC.out wr hbr 2 _ rfl
  have q3 := HC.out wr hbr 3 _ rfl
  have q4 := HC.out wr hbr 4 _ rfl
  have hbw := hba.trans (hbr.mono hba.size)
  have hbs := hbr.size
  rw [World.size_alloc] at hbs
  by_cases hlt : k < n
  · obtain ⟨b, o, x, rfl, ex, x0, x1, x2, x3, x4, x5⟩ := hx.out k hlt
    have hb1 := World.block_lt_of_cell? _ _ x0
    replace x0 := (hbw.cell (p := ⟨b, o + k * 6, none⟩) hb1).trans x0
    replace x1 := (hbw.cell (p := ⟨b, o + k * 6 + 1, none⟩) hb1).trans x1
    replace x2 := (hbw.cell (p := ⟨b, o + k * 6 + 2, none⟩) hb1).trans x2
    replace x3 := (hbw.cell (p := ⟨b, o + k * 6 + 3, none⟩) hb1).trans x3
    replace x4 := (hbw.cell (p := ⟨b, o + k * 6 + 4, none⟩) hb1).trans x4
    replace x5 := (hbw.cell (p := ⟨b, o + k * 6 + 5, none⟩) hb1).trans x5
    have HPx := HP.out x (mem_at ex)
    have HX : Hid (partT x = if x.code.size = 0 then symT x.sym else x.code) := Lib.hid rfl
    have HQ := Lib.hid (fun W (h : x.code.size = 0) => psymText_any x.sym W (HPx.2 h))
    have HM : Hid (l ++ [partT x] = (la.take (k + 1)).map partT) := Lib.hid (by
     obtain ⟨hk', e⟩ := List.getElem?_eq_some_iff.1 ex
     rw [List.take_succ_eq_append_getElem hk', List.map_append, ← hp.out, e]; rfl)
    generalize partT x = T at HX HM
    generalize symT x.sym = sy at HX HQ
    obtain ⟨⟨xn, xl, xm, xp⟩, xc, xk⟩ := x
    simp only [Sm.agg] at x0 x1 x2 x3 x4 x5 HX HQ
    have i1 : (k : Int) < (n : Int) := by omega
    have HBX := Lib.hid (heap_alloc_new wr (.cells #[.string xn, .bool xl, .int .i64 xm, .int .i64 xp, .string xc, .int .i64 xk] 67))
    have hbx := (Below.refl wr.heap.size wr).alloc (Nat.le_refl _) (.cells #[.string xn, .bool xl, .int .i64 xm, .int .i64 xp, .string xc, .int .i64 xk] 67)
    have hown2 := hown.below hbx
    have hrx := hbr.trans (hbx.mono hbr.size)
    clear ex hx HPx HP HN HT q1 q2 q3 q4 hbw hown hp
    by_cases hcz : xc.size = 0
    · have d1 : (!xc.toList.isEmpty) = false := by rw [str_empty hcz]; rfl
      obtain rfl : T = sy := by rw [HX.out, if_pos hcz]
      have HQ2 := Lib.hid (fun W => HQ.out W hcz)
      have d1' := str_empty hcz
      clear HX hcz HQ
      go_wp2_with (first | (go_at_call 79; refine (HQ2.out _).mono ?_; rintro e w9 ⟨rfl, hb9⟩; have hown9 := hown2.below hb9) | (at_builtin; refine wpList_append_src rfl _ _ 26 rfl (w.heap.size + 1) 9 i0 (.string ByteArray.empty) 1 16 Tryz.underlying26 hi hz0 hz1 hz2 rfl (by decide) _ _ _ rfl (hown9.alloc _) _ 1 _ rfl (SrcV.new _ (.string T) _) rfl (strs_one [T]) ?c3 ?c4 ?c5 ?_))
      case c3 => unfold maxLen; omega
      case c4 => omega
      case c5 => have hs9 := hb9.size; rw [World.size_alloc] at hs9 ⊢; omega
      have hs9 := hb9.size
      rw [World.size_alloc] at hs9
      intro v' w4 hown' hgrow
      have hz4 := ((hrx.trans (hb9.mono hrx.size)).alloc (by simp; omega) _).grown hgrow (by simp; omega) (own_base hown9 (by simp))
      go_wp2_with fail
      go_roundw
      case rel => exact ⟨k + 1, l ++ [T], by omega, by go_num, by simp; omega, OwnS.one hown', hz4, HM⟩
      case measure => simp [intOf]; omega
    · have d1 : (!xc.toList.isEmpty) = true := by rw [str_some hcz]; rfl
      have d1' := str_some hcz
      obtain rfl : T = xc := by rw [HX.out, if_neg hcz]
      clear HX hcz HQ
      go_wp2_with (first | (at_builtin; refine wpList_append_src rfl _ _ 26 rfl (w.heap.size + 1) 9 i0 (.string ByteArray.empty) 1 16 Tryz.underlying26 hi hz0 hz1 hz2 rfl (by decide) _ _ _ rfl (hown2.alloc _) _ 1 _ rfl (src_at _ (.string T) _ _ (by simp)) rfl (strs_one [T]) ?c3 ?c4 ?c5 ?_))
      case c3 => unfold maxLen; omega
      case c4 => omega
      case c5 => first | (simp; omega) | omega
      intro v' w4 hown' hgrow
      have hz4 := (hrx.alloc (by simp; omega) _).grown hgrow (by simp; omega) (own_base hown2 (by simp))
      go_wp2_with fail
      go_roundw
      case rel => exact ⟨k + 1, l ++ [T], by omega, by go_num, by simp; omega, OwnS.one hown', hz4, HM⟩
      case measure => simp [intOf]; omega
  · have e1 : la.take k = la := List.take_of_length_le (by have := hn.out; omega)
    rw [e1] at hp
    clear hx HP
    cases nb with
    | true =>
      go_wp2_with (first | (go_at_call 97; refine (HN.out _).mono ?_; rintro e w9 ⟨rfl, hb9⟩))
      go_ret
      have hR : R = l := by rw [HR.out, hp.out]; simp
      exact ⟨⟨_, rfl, by rw [hR]; exact own_weaken (OwnS.below hown hb9) (by omega)⟩, hbw.trans (hb9.mono hbw.size)⟩
    | false =>
      have HT2 := Lib.hid (fun W => HT.out W rfl)
      have hlk' : l.length ≤ 401 := by omega
      go_wp2_with (first | (go_at_call 97; refine (HN.out _).mono ?_; rintro e w9 ⟨rfl, hb9⟩; have p1 := (hb9.cell (World.block_lt_of_cell? _ _ q1)).trans q1; have p2 := (hb9.cell (World.block_lt_of_cell? _ _ q2)).trans q2; have p3 := (hb9.cell (World.block_lt_of_cell? _ _ q3)).trans q3; have p4 := (hb9.cell (World.block_lt_of_cell? _ _ q4)).trans q4) | (go_at_call 79; refine (HT2.out _).mono ?_; rintro e w8 ⟨rfl, hb8⟩; have hown8 := (hown.below hb9).below hb8) | (at_builtin; refine wpList_append_src rfl _ _ 26 rfl (w.heap.size + 1) 9 i0 (.string ByteArray.empty) 1 16 Tryz.underlying26 hi hz0 hz1 hz2 rfl (by decide) _ _ _ rfl (hown8.alloc _) _ 2 _ rfl (src_two _ (.string ⟨#[37, 112, 114, 101, 99]⟩) (.string sT) _) rfl (strs_one [⟨#[37, 112, 114, 101, 99]⟩, sT]) ?c3 ?c4 ?c5 ?_))
      case c3 => unfold maxLen; omega
      case c4 => omega
      case c5 => have hs9 := hb9.size; have hs8 := hb8.size; rw [World.size_alloc]; omega
      have hs9 := hb9.size
      have hs8 := hb8.size
      intro v' w4 hown' hgrow
      have hz4 := (((hbr.trans (hb9.mono hbr.size)).trans (hb8.mono (hbr.trans (hb9.mono hbr.size)).size)).alloc (by simp; omega) _).grown hgrow (by simp; omega) (own_base hown8 (by simp))
      go_wp2_with fail
      go_ret
      have hR : R = l ++ [⟨#[37, 112, 114, 101, 99]⟩, sT] := by rw [HR.out, hp.out]; simp
      exact ⟨⟨_, rfl, by rw [hR]; exact own_weaken (OwnS.two hown') (by omega)⟩, hba.trans (hz4.mono hba.size)⟩
end Go.Proofs.YtnoppoifepbchaaGreatDoor
