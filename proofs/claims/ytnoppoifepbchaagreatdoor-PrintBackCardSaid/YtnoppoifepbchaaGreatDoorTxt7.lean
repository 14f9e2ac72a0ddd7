/- The text of a source: print's. -/
import Derived.Test.YtnoppoifepbchaaGreatDoorTxtP
import Derived.Test.YtnoppoifepbchaaGreatDoorQuote
import Derived.Deep.AppendLies
namespace Go.Proofs.YtnoppoifepbchaaGreatDoor
section
open Go.RowKit
set_option linter.unusedVariables false
set_option linter.unusedSimpArgs false

set_option maxRecDepth 100000 in
set_option maxHeartbeats 16000000 in
theorem ptext_any (v : Value) (s : So) (w : World) (h : SoV w v s) (hs : SoSmall s) (hf : SoFew s) (hE : Env w) : Calls Tryz.prog 18 #[v] w (TellsTx (soT s) w) := by
 have HM := Lib.hid (fun (W : World) (hW : Below w.heap.size w W) => pmay_any v s W (h.below hW) hs (hE.below hW).max)
 obtain ⟨dv, rv, rfl, hd, hr⟩ := h
 obtain ⟨a1, n1, c1, rfl, hn1, hc1, hm1, hx1⟩ := hd.open
 obtain ⟨a2, n2, c2, rfl, hn2, hc2, hm2, hx2⟩ := hr.open
 have HR : Hid (soT s = if maySo s = true then proT s.pro ++ s.decls.flatMap (fun d => declT d ++ [10]) ++ [37, 37, 10] ++ s.rules.flatMap (fun r => ruleT r ++ [10]) ++ tailT s.tail else []) := Lib.hid rfl
 have HOD' := Lib.hid (fun (h : maySo s = true) d (hd : d ∈ s.decls) => And.intro (declT_len d (hs.2.2.1 d hd) ((so_of h).1 d hd) (hf.2.2.1 d hd)).1 (And.intro (declT_len d (hs.2.2.1 d hd) ((so_of h).1 d hd) (hf.2.2.1 d hd)).2 (And.intro (hs.2.2.1 d hd).1 (And.intro (dc_of ((so_of h).1 d hd)).2 (hf.2.2.1 d hd)))))
 have HOR' := Lib.hid (fun (h : maySo s = true) r (hr : r ∈ s.rules) => And.intro (ruleT_len r (hs.2.2.2 r hr) (hf.2.2.2 r hr)).1 (And.intro (ruleT_len r (hs.2.2.2 r hr) (hf.2.2.2 r hr)).2 (And.intro (hs.2.2.2 r hr) (And.intro (rl_of ((so_of h).2 r hr)) (hf.2.2.2 r hr)))))
 have HE := Lib.hid hE
 have hz1 := hs.1
 have hz2 := hs.2.1
 have hn1' : n1 ≤ 401 := by rw [hn1.out]; exact hf.1
 have hn2' : n2 ≤ 401 := by rw [hn2.out]; exact hf.2.1
 generalize soT s = R at HR ⊢
 generalize maySo s = mb at HM HR HOD' HOR'
 obtain ⟨pr, ds, rs, ta⟩ := s
 simp only at *
 clear hd hr hs hf hE hc1 hm1 hc2 hm2
 have hba := (Below.refl w.heap.size w).alloc (Nat.le_refl _) (.cells #[.string pr, .slice a1 n1 c1, .slice a2 n2 c2, .string ta] 36)
 have HC := Lib.hid (fun W hW => box1 (w := w) (A := #[.string pr, .slice a1 n1 c1, .slice a2 n2 c2, .string ta]) (T := 36) (W := W) hW)
 go_enter Tryz.func18, Tryz.ntmps18
 have q0 := HC.out _ (Below.refl _ _) 0 _ rfl
 have q1 := HC.out _ (Below.refl _ _) 1 _ rfl
 have q2 := HC.out _ (Below.refl _ _) 2 _ rfl
 have q3 := HC.out _ (Below.refl _ _) 3 _ rfl
 cases mb with
 | false =>
   go_wp2_with (first | (go_at_call 35; refine (HM.out _ hba).mono ?_; rintro e w9 ⟨rfl, hb9⟩))
   go_ret
   exact ⟨_, rfl, by rw [HR.out]; rfl, hba.trans (hb9.mono hba.size)⟩
 | true =>
   have HOD := Lib.hid (fun d hd => HOD'.out rfl d hd)
   have HOR := Lib.hid (fun r hr => HOR'.out rfl r hr)
   have HR2 : Hid (R = proT pr ++ ds.flatMap (fun d => declT d ++ [10]) ++ [37, 37, 10] ++ rs.flatMap (fun r => ruleT r ++ [10]) ++ tailT ta) := Lib.hid (by rw [HR.out]; rfl)
   clear HR HOD' HOR'
   go_upto_if 13 with (first | (go_at_call 35; refine (HM.out _ hba).mono ?_; rintro e w9 ⟨rfl, hb9⟩; have q0' := HC.out _ hb9 0 _ rfl; have q0'' := cell_alloc q0' (.cells #[.pointer none, .slice none 0 0] 88)))
   have hw9 := hba.trans (hb9.mono hba.size)
   have hBd0 := Lib.fresh_isBuilder 88 5 w9
   have hbB := (Below.refl w9.heap.size w9).alloc (Nat.le_refl _) (.cells #[.pointer none, .slice none 0 0] 88)
   clear q0 q1 q2 q3 HM q0'
   generalize w9.alloc (.cells #[.pointer none, .slice none 0 0] 88) = wB at hBd0 hbB q0'' ⊢
   go_cut [] from 13 to 18 (fun wx => Lib.IsBuilder 88 5 w9.heap.size w9.heap.size (Lib.byteCells (proT pr)) wx ∧ Below w9.heap.size w9 wx)
   case first =>
    clear hx1 hx2 HOD HOR HR2 HE HC
    by_cases h0 : pr.size = 0
    · have d1 : (!pr.toList.isEmpty) = false := by rw [str_empty h0]; rfl
      have HP : Hid (proT pr = []) := Lib.hid (by unfold proT; rw [if_pos h0])
      clear h0
      rw [d1]
      go_wp2_with fail
      go_meet
      case rel => exact ⟨by rw [HP.out]; exact hBd0, hbB⟩
    · have d1 : (!pr.toList.isEmpty) = true := by rw [str_some h0]; rfl
      have HP : Hid (proT pr = [37, 123] ++ pr.data.toList ++ [37, 125, 10]) := Lib.hid (by unfold proT; rw [if_neg h0])
      have e1 : (⟨#[37, 123]⟩ : ByteArray).size = 2 := rfl
      have e2 : (⟨#[37, 125, 10]⟩ : ByteArray).size = 3 := rfl
      have hz3 : ((⟨#[37, 123]⟩ : ByteArray) ++ pr ++ ⟨#[37, 125, 10]⟩).size ≤ 1000010 := by rw [ByteArray.size_append, ByteArray.size_append]; omega
      clear h0
      rw [d1]
      go_wp2_with (first | (go_at_call 40; refine (writeString_any w9.heap.size w9.heap.size _ _ _ hBd0 (by simp only [List.length_nil]; omega) hbB.size).mono ?_; rintro e w7 ⟨rfl, hB7, hb7⟩))
      go_meet
      case rel => exact ⟨.inr (by
       have e3 : Lib.byteCells (proT pr) = [] ++ Lib.strCells ((⟨#[37, 123]⟩ : ByteArray) ++ pr ++ ⟨#[37, 125, 10]⟩) := by
        rw [HP.out]; show _ = Lib.byteCells ((_ : ByteArray).data.toList); rw [ba_data, ba_data]
       rw [e3]; exact hB7), hbB.trans hb7⟩
   case rest =>
    obtain ⟨hBd, hbr⟩ := hcut
    clear hBd0 hbB q0''
    have hPl : (proT pr).length ≤ 1000010 := by
     unfold proT; split
     · simp
     · have : pr.data.toList.length = pr.size := rfl
       simp [this]; omega
    have q1 := HC.out wc (hb9.trans (hbr.mono hb9.size)) 1 _ rfl
    go_wp2_with fail
    go_loopw [22] (fun i wr => ∃ k : Nat, k ≤ n1 ∧ i = .int .i64 k ∧ Lib.IsBuilder 88 5 w9.heap.size w9.heap.size (Lib.byteCells (proT pr ++ (ds.take k).flatMap (fun d => declT d ++ [10]))) wr ∧ Below w9.heap.size w9 wr ∧ (proT pr ++ (ds.take k).flatMap (fun d => declT d ++ [10])).length ≤ 1000010 + k * 900000001) (fun i _ => n1 - (intOf i).toNat)
    case atStart => exact ⟨0, Nat.zero_le _, rfl, by simpa using hBd, hbr, by simpa using hPl⟩
    case round =>
     clear q1 hBd hbr
     obtain ⟨k, hk, rfl, hBd, hbr, hlb⟩ := hrel
     rename World => wr
     have q3 := HC.out wr (hb9.trans (hbr.mono hb9.size)) 2 _ rfl
     have q1 := HC.out wr (hb9.trans (hbr.mono hb9.size)) 3 _ rfl
     have hbw := hw9.trans (hbr.mono hw9.size)
     by_cases hlt : k < n1
     · obtain ⟨b, o, x, sx, rfl, ex, hsx, x0, x1, x2, x3⟩ := hx1.out k hlt
       obtain ⟨ax, nx, cx, rfl, hnx, _⟩ := hsx.open
       have hb1 := World.block_lt_of_cell? _ _ x0
       replace x0 := (hbw.cell (p := ⟨b, o + k * 4, none⟩) hb1).trans x0
       replace x1 := (hbw.cell (p := ⟨b, o + k * 4 + 1, none⟩) hb1).trans x1
       replace x2 := (hbw.cell (p := ⟨b, o + k * 4 + 2, none⟩) hb1).trans x2
       replace x3 := (hbw.cell (p := ⟨b, o + k * 4 + 3, none⟩) hb1).trans x3
       have hO := HOD.out x (mem_at ex)
       have HW := Lib.hid (fun (W : World) (hW : Below w.heap.size w W) => declWords_any (.agg #[.int .i64 x.kind, .string x.tag, .slice ax nx cx, .int .i64 x.pos]) x W ⟨_, rfl, hsx.below hW⟩ hO.2.2.1 hO.2.2.2.1 hO.2.2.2.2 (HE.out.below hW))
       have hlen := hO.1
       have hcnt := hO.2.1
       have HJ := Lib.hid (fun (v : Value) (W : World) (base : Nat) (h : OwnS base W v (keyS x.kind :: declTl x)) => join_any v _ _ base W h hcnt (by have h' := hlen; unfold declT at h'; omega))
       have HN := Lib.hid (flat_next (fun d => declT d ++ [10]) ex)
       have HD : Hid ((⟨((keyS x.kind).data.toList ++ tailSp (declTl x)).toArray⟩ : ByteArray).data.toList = declT x) := Lib.hid rfl
       have hJz : (⟨((keyS x.kind).data.toList ++ tailSp (declTl x)).toArray⟩ : ByteArray).size = (declT x).length := by rfl
       generalize (⟨((keyS x.kind).data.toList ++ tailSp (declTl x)).toArray⟩ : ByteArray) = J at HJ HD hJz
       generalize declT x = dT at HD HN hJz hlen
       obtain ⟨kd, tg, sy, po⟩ := x
       simp only at x0 x1 x2 x3 HW HJ
       have i1 : (k : Int) < (n1 : Int) := by omega
       have hbx := hbr.alloc hbr.size (.cells #[.int .i64 kd, .string tg, .slice ax nx cx, .int .i64 po] 65)
       have hwx := hbw.trans ((Below.refl wr.heap.size wr).alloc (Nat.le_refl _) (.cells #[.int .i64 kd, .string tg, .slice ax nx cx, .int .i64 po] 65) |>.mono hbw.size)
       have hBx := isBuilder_below hBd ((Below.refl wr.heap.size wr).alloc (Nat.le_refl _) (.cells #[.int .i64 kd, .string tg, .slice ax nx cx, .int .i64 po] 65))
       have e10 : (⟨#[10]⟩ : ByteArray).size = 1 := rfl
       have HT : Hid ((J ++ (⟨#[10]⟩ : ByteArray)).data.toList = dT ++ [10]) := Lib.hid (by rw [ba_data, HD.out])
       have hTz : (J ++ (⟨#[10]⟩ : ByteArray)).size = dT.length + 1 := by rw [ByteArray.size_append, hJz]; rfl
       clear ex hsx hx1 hx2 HOD HOR hBd hO q1 q3
       go_wp2_with (first | (go_at_call 42; refine (HW.out _ hwx).mono ?_; rintro e w5 ⟨⟨v5, rfl, hv5⟩, hb5⟩; have hB5 := isBuilder_below hBx hb5) | (go_at_call 41; refine (HJ.out _ _ _ hv5).mono ?_; rintro e w6 ⟨rfl, hb6⟩; have hB6 := isBuilder_below hB5 hb6) | (go_at_call 40; refine (writeString_any w9.heap.size w9.heap.size _ (J ++ (⟨#[10]⟩ : ByteArray)) _ hB6 (by rw [Lib.byteCells_length]; omega) (by have h5 := hb5.size; have h6 := hb6.size; have h7 := hbx.size; omega)).mono ?_; rintro e w7 ⟨rfl, hB7, hb7⟩))
       have hz7 := ((hbx.trans (hb5.mono hbx.size)).trans (hb6.mono (hbx.trans (hb5.mono hbx.size)).size)).trans hb7
       have HBN : Hid (Lib.byteCells (proT pr ++ (ds.take k).flatMap (fun d => declT d ++ [10])) ++ Lib.strCells (J ++ (⟨#[10]⟩ : ByteArray)) = Lib.byteCells (proT pr ++ (ds.take (k + 1)).flatMap (fun d => declT d ++ [10]))) := Lib.hid (by
        rw [HN.out]; show Lib.byteCells _ ++ Lib.byteCells ((J ++ (⟨#[10]⟩ : ByteArray)).data.toList) = _; rw [← Lib.byteCells_append, HT.out]; simp)
       go_roundw
       case rel => exact ⟨k + 1, by omega, by go_num, .inr (by rw [← HBN.out]; exact hB7), hz7, by rw [HN.out]; simp at *; omega⟩
       case measure => simp [intOf]; omega
     · have e1 : ds.take k = ds := List.take_of_length_le (by have := hn1.out; omega)
       rw [e1] at hBd hlb
       clear hx1 HOD
       go_wp2_with (first | (go_at_call 40; refine (writeString_any w9.heap.size w9.heap.size _ _ _ hBd (by rw [Lib.byteCells_length]; have e3 : (⟨#[37, 37, 10]⟩ : ByteArray).size = 3 := rfl; omega) hbr.size).mono ?_; rintro e w7 ⟨rfl, hB7, hb7⟩; have q3' := HC.out w7 (hb9.trans ((hbr.trans hb7).mono hb9.size)) 2 _ rfl))
       have hB8 : Lib.IsBuilder 88 5 w9.heap.size w9.heap.size (Lib.byteCells (proT pr ++ ds.flatMap (fun d => declT d ++ [10]) ++ [37, 37, 10])) w7 := .inr (by rw [Lib.byteCells_append]; exact hB7)
       have hl8 : (proT pr ++ ds.flatMap (fun d => declT d ++ [10]) ++ [37, 37, 10]).length ≤ 400000000000 := by rw [List.length_append]; simp only [List.length_cons, List.length_nil]; omega
       have hb8 := hbr.trans hb7
       generalize proT pr ++ ds.flatMap (fun d => declT d ++ [10]) ++ [37, 37, 10] = B2 at hB8 hl8 HR2
       clear hB7 hb7 hBd hlb q1 q3 hlt hPl
       go_loopw [36] (fun i wr => ∃ k : Nat, k ≤ n2 ∧ i = .int .i64 k ∧ Lib.IsBuilder 88 5 w9.heap.size w9.heap.size (Lib.byteCells (B2 ++ (rs.take k).flatMap (fun r => ruleT r ++ [10]))) wr ∧ Below w9.heap.size w9 wr ∧ (B2 ++ (rs.take k).flatMap (fun r => ruleT r ++ [10])).length ≤ 400000000000 + k * 170000000001) (fun i _ => n2 - (intOf i).toNat)
       case atStart => exact ⟨0, Nat.zero_le _, rfl, by simpa using hB8, hb8, by simpa using hl8⟩
       case round =>
        clear hB8 hbr hb8 hbw hk q3'
        obtain ⟨k, hk, rfl, hBd, hbr, hlb⟩ := hrel
        rename World => wr
        have q3 := HC.out wr (hb9.trans (hbr.mono hb9.size)) 3 _ rfl
        have hbw := hw9.trans (hbr.mono hw9.size)
        by_cases hlt : k < n2
        · obtain ⟨b, o, x, sx, rfl, ex, hsx, x0, x1, x2⟩ := hx2.out k hlt
          obtain ⟨ax, nx, cx, rfl, hnx, _⟩ := hsx.open
          have hb1 := World.block_lt_of_cell? _ _ x0
          replace x0 := (hbw.cell (p := ⟨b, o + k * 3, none⟩) hb1).trans x0
          replace x1 := (hbw.cell (p := ⟨b, o + k * 3 + 1, none⟩) hb1).trans x1
          replace x2 := (hbw.cell (p := ⟨b, o + k * 3 + 2, none⟩) hb1).trans x2
          have hO := HOR.out x (mem_at ex)
          have HW := Lib.hid (fun (W : World) (hW : Below w.heap.size w W) => ruleWords_any (.agg #[.string x.left, .slice ax nx cx, .int .i64 x.pos]) x W ⟨_, rfl, hsx.below hW⟩ hO.2.2.1 hO.2.2.2.1 hO.2.2.2.2)
          have hlen := hO.1
          have hcnt := hO.2.1
          have HJ := Lib.hid (fun (v : Value) (W : World) (base : Nat) (h : OwnS base W v (x.left :: ruleTl x)) => join_any v _ _ base W h hcnt (by have h' := hlen; unfold ruleT at h'; omega))
          have HN := Lib.hid (flat_next (fun d => ruleT d ++ [10]) ex)
          have HD : Hid ((⟨(x.left.data.toList ++ tailSp (ruleTl x)).toArray⟩ : ByteArray).data.toList = ruleT x) := Lib.hid rfl
          have hJz : (⟨(x.left.data.toList ++ tailSp (ruleTl x)).toArray⟩ : ByteArray).size = (ruleT x).length := by rfl
          generalize (⟨(x.left.data.toList ++ tailSp (ruleTl x)).toArray⟩ : ByteArray) = J at HJ HD hJz
          generalize ruleT x = dT at HD HN hJz hlen
          obtain ⟨lf, sy, po⟩ := x
          simp only at x0 x1 x2 HW HJ
          have i1 : (k : Int) < (n2 : Int) := by omega
          have hbx := hbr.alloc hbr.size (.cells #[.string lf, .slice ax nx cx, .int .i64 po] 57)
          have hwx := hbw.trans ((Below.refl wr.heap.size wr).alloc (Nat.le_refl _) (.cells #[.string lf, .slice ax nx cx, .int .i64 po] 57) |>.mono hbw.size)
          have hBx := isBuilder_below hBd ((Below.refl wr.heap.size wr).alloc (Nat.le_refl _) (.cells #[.string lf, .slice ax nx cx, .int .i64 po] 57))
          have e10 : (⟨#[10]⟩ : ByteArray).size = 1 := rfl
          have HT : Hid ((J ++ (⟨#[10]⟩ : ByteArray)).data.toList = dT ++ [10]) := Lib.hid (by rw [ba_data, HD.out])
          have hTz : (J ++ (⟨#[10]⟩ : ByteArray)).size = dT.length + 1 := by rw [ByteArray.size_append, hJz]; rfl
          clear ex hsx hx2 HOR hBd hO q3
          go_wp2_with (first | (go_at_call 43; refine (HW.out _ hwx).mono ?_; rintro e w5 ⟨⟨v5, rfl, hv5⟩, hb5⟩; have hB5 := isBuilder_below hBx hb5) | (go_at_call 41; refine (HJ.out _ _ _ hv5).mono ?_; rintro e w6 ⟨rfl, hb6⟩; have hB6 := isBuilder_below hB5 hb6) | (go_at_call 40; refine (writeString_any w9.heap.size w9.heap.size _ (J ++ (⟨#[10]⟩ : ByteArray)) _ hB6 (by rw [Lib.byteCells_length]; omega) (by have h5 := hb5.size; have h6 := hb6.size; have h7 := hbx.size; omega)).mono ?_; rintro e w7 ⟨rfl, hB7, hb7⟩))
          have hz7 := ((hbx.trans (hb5.mono hbx.size)).trans (hb6.mono (hbx.trans (hb5.mono hbx.size)).size)).trans hb7
          have HBN : Hid (Lib.byteCells (B2 ++ (rs.take k).flatMap (fun r => ruleT r ++ [10])) ++ Lib.strCells (J ++ (⟨#[10]⟩ : ByteArray)) = Lib.byteCells (B2 ++ (rs.take (k + 1)).flatMap (fun r => ruleT r ++ [10]))) := Lib.hid (by
           rw [HN.out]; show Lib.byteCells _ ++ Lib.byteCells ((J ++ (⟨#[10]⟩ : ByteArray)).data.toList) = _; rw [← Lib.byteCells_append, HT.out]; simp)
          go_roundw
          case rel => exact ⟨k + 1, by omega, by go_num, .inr (by rw [← HBN.out]; exact hB7), hz7, by rw [HN.out]; simp at *; omega⟩
          case measure => simp [intOf]; omega
        · have e1 : rs.take k = rs := List.take_of_length_le (by have := hn2.out; omega)
          rw [e1] at hBd hlb
          clear hx2 HOR
          by_cases h0 : ta.size = 0
          · have d1 : (!ta.toList.isEmpty) = false := by rw [str_empty h0]; rfl
            have d2 := str_empty h0
            have HP : Hid (R = B2 ++ rs.flatMap (fun r => ruleT r ++ [10])) := Lib.hid (by rw [HR2.out]; unfold tailT; rw [if_pos h0]; simp)
            go_wp2_with (first | (go_at_call 44; refine (Tryz.Builder_String_any w9.heap.size w9.heap.size _ wr hBd hbr.size).mono ?_; rintro e w7 ⟨rfl, hb7⟩))
            go_ret
            exact ⟨_, rfl, by rw [HP.out]; try rfl, hw9.trans ((hbr.trans hb7).mono hw9.size)⟩
          · have d1 : (!ta.toList.isEmpty) = true := by rw [str_some h0]; rfl
            have d2 := str_some h0
            have e2 : (⟨#[37, 37]⟩ : ByteArray).size = 2 := rfl
            have hz3 : ((⟨#[37, 37]⟩ : ByteArray) ++ ta).size ≤ 1000010 := by rw [ByteArray.size_append]; omega
            have HP : Hid (R = B2 ++ rs.flatMap (fun r => ruleT r ++ [10]) ++ ((⟨#[37, 37]⟩ : ByteArray) ++ ta).data.toList) := Lib.hid (by rw [HR2.out]; unfold tailT; rw [if_neg h0, ba_data])
            go_wp2_with (first | (go_at_call 40; refine (writeString_any w9.heap.size w9.heap.size _ _ _ hBd (by rw [Lib.byteCells_length]; omega) hbr.size).mono ?_; rintro e w7 ⟨rfl, hB7, hb7⟩; have hB8 : Lib.IsBuilder 88 5 w9.heap.size w9.heap.size (Lib.byteCells (B2 ++ rs.flatMap (fun r => ruleT r ++ [10]) ++ ((⟨#[37, 37]⟩ : ByteArray) ++ ta).data.toList)) w7 := .inr (by rw [Lib.byteCells_append]; exact hB7)) | (go_at_call 44; refine (Tryz.Builder_String_any w9.heap.size w9.heap.size _ w7 hB8 (hbr.trans hb7).size).mono ?_; rintro e w8 ⟨rfl, hb8⟩))
            go_ret
            exact ⟨_, rfl, by rw [HP.out]; first | done | rfl | simp, hw9.trans (((hbr.trans hb7).trans hb8).mono hw9.size)⟩
end
section
open Go.RowKit
set_option linter.unusedVariables false

section
variable {α : Type} {base : Nat} {E : TypeId} {size : Nat} {R : World → List Value → α → Prop} {S S' : Nat → Prop} {V w w5 : World} {v new : Value} {xs cs : List Value} {l : List α} {x : α} {B j : Nat} {cells : Array Value} {T : TypeId}
theorem GrowL.firm (h : GrowL base E size R S w v xs l) (hs : 0 < size) :
  Firm (fun b => S b ∨ v.ownBlock = some b) w (fun w' => ListV size R w' v l) := ⟨h.lt, fun w' hw => (h.keep hw).list hs⟩
theorem GrowL.box (h : GrowL base E size R S V v xs l) (hb : Below V.heap.size V w) (ho : w5.ownsRow base E size new (l.length + 1) (xs ++ cs)) (hg : w.grownBy w5 v.ownBlock)
  (hl : new.ownBlock = v.ownBlock ∨ new.ownBlock = some w.heap.size) (hc : cs.length = size) (hx : Firm S' w (fun w' => R w' cs x)) (hn : ∀ k, v.ownBlock = some k → ¬ S' k)
  (hB : B < base) (hbox : V.heap[B]? = some (.cells cells T (0, 0))) (hS : ∀ b, S b ∨ S' b → b ≠ B) :
  GrowL base E size R (fun b => S b ∨ S' b) (w5.setCell ⟨B, j, none⟩ new) new (xs ++ cs) (l ++ [x]) ∧
  (w5.setCell ⟨B, j, none⟩ new).heap[B]? = some (.cells (cells.setIfInBounds j new) T (0, 0)) ∧
  (∀ D, D ≤ B → Below D w (w5.setCell ⟨B, j, none⟩ new)) ∧ (∀ b, b < w.heap.size → b ≠ B → b < base → (w5.setCell ⟨B, j, none⟩ new).heap[b]? = w.heap[b]?) := by
 have hlt : B < V.heap.size := (Array.getElem?_eq_some_iff.1 hbox).1
 have hne : ∀ k, v.ownBlock = some k → B < k := fun k hk => Nat.lt_of_lt_of_le hB (own_base h.own (Nat.le_refl _) k hk)
 have p := (h.below hb).push ho hg hl hc hx hn
 refine ⟨p.keep (fun b hb' => Below.heap_setCell _ _ _ _ ?_), block_setCell ?_, fun D hD => ?_, fun b hb1 hb2 hb3 => (Below.heap_setCell _ _ _ _ hb2).trans (hg.block b hb1 (fun e => by have := own_base h.own (Nat.le_refl _) b e.symm; omega))⟩
 · show b ≠ B
   rcases hb' with hb' | hb'
   · exact hS b hb'
   · have := own_base ho (Nat.le_refl _) b hb'
     omega
 · exact (hg.block B (Nat.lt_of_lt_of_le hlt hb.size) (fun e => Nat.lt_irrefl _ (hne B e.symm))).trans ((hb.block B hlt).trans hbox)
 · have h1 := hb.size
   exact ((Below.refl D w).grown hg (by omega) (fun k hk => by have := hne k hk; omega)).setCell hD new
/-- elements that lead nowhere -/
theorem GrowL.box0 (h : GrowL base E size R (fun _ => False) V v xs l) (hb : Below V.heap.size V w) (ho : w5.ownsRow base E size new (l.length + 1) (xs ++ cs)) (hg : w.grownBy w5 v.ownBlock)
  (hl : new.ownBlock = v.ownBlock ∨ new.ownBlock = some w.heap.size) (hc : cs.length = size) (hx : ∀ w', R w' cs x)
  (hB : B < base) (hbox : V.heap[B]? = some (.cells cells T (0, 0))) :
  GrowL base E size R (fun _ => False) (w5.setCell ⟨B, j, none⟩ new) new (xs ++ cs) (l ++ [x]) ∧
  (w5.setCell ⟨B, j, none⟩ new).heap[B]? = some (.cells (cells.setIfInBounds j new) T (0, 0)) ∧
  (∀ D, D ≤ B → Below D w (w5.setCell ⟨B, j, none⟩ new)) ∧ (∀ b, b < w.heap.size → b ≠ B → b < base → (w5.setCell ⟨B, j, none⟩ new).heap[b]? = w.heap[b]?) := by
 have p := h.box (j := j) hb ho hg hl hc (Firm.pure hx) (fun _ _ h => h) hB hbox (fun b hb => (hb.elim id id).elim)
 rw [show (fun b : Nat => (fun _ => False) b ∨ (fun _ => False) b) = fun _ => False from funext (fun b => by simp)] at p
 exact p
/-- what the append's law tells of the new slice's block -/
theorem own_new {gg n cap H : Nat} (h : v.ownBlock = some gg ∨ gg = H) (hH : H = w.heap.size) : (Value.slice (some ⟨gg, 0, none⟩) n cap).ownBlock = v.ownBlock ∨ (Value.slice (some ⟨gg, 0, none⟩) n cap).ownBlock = some w.heap.size := by
 subst hH
 rcases h with h | h
 · exact .inl (by rw [h]; rfl)
 · exact .inr (by rw [h]; rfl)
end
end
end Go.Proofs.YtnoppoifepbchaaGreatDoor
