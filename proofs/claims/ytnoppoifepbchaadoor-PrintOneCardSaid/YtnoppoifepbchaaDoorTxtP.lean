/- Texts: what May tells of their parts. -/
import Derived.Test.YtnoppoifepbchaaDoorTxt1
import Derived.Test.YtnoppoifepbchaaDoorTxt5
namespace Go.Proofs.YtnoppoifepbchaaDoor
section
open Go.RowKit
set_option linter.unusedVariables false
set_option linter.unusedSimpArgs false

theorem numT_le (n : Int) (h0 : 0 ≤ n) (h1 : n ≤ 50000) : (numT n).size ≤ 10 := by
 obtain ⟨k, rfl⟩ := Int.eq_ofNat_of_zero_le h0
 have e : (numT (k : Int)).size = Lib.nDigits k := by
  show (Lib.itoa (k : Int)).toArray.size = _
  unfold Lib.itoa
  rw [if_neg (by omega)]
  simp [Lib.decDigits_length]
 rw [e]
 rw [Lib.nDigits]; split
 · omega
 rw [Lib.nDigits]; split
 · omega
 rw [Lib.nDigits]; split
 · omega
 rw [Lib.nDigits]; split
 · omega
 rw [Lib.nDigits]; split <;> omega
theorem keyS_size (k : Int) : (keyS k).size ≤ 10 := by
 unfold keyS
 repeat' split
 all_goals decide
theorem symNum_of {num lit : Bool} {x : Sm} (h : symB num lit x = true) : 0 ≤ x.num ∧ x.num ≤ 50000 := by
 unfold symB at h
 split at h
 · rw [decide_eq_true_iff] at h; omega
 · rw [decide_eq_true_iff] at h; rcases h.2 with h | h <;> omega
theorem dc_of {d : Dc} (h : mayDc d = true) : (1 ≤ d.kind ∧ d.kind ≤ 6) ∧ ∀ x ∈ d.syms, SmTx x ∧ 0 ≤ x.num ∧ x.num ≤ 50000 := by
 unfold mayDc dcB at h
 rw [Bool.and_eq_true, decide_eq_true_iff, List.all_eq_true] at h
 exact ⟨⟨h.1.1, h.1.2.1⟩, fun x hx => ⟨symTx_of (h.2 x hx), symNum_of (h.2 x hx)⟩⟩
theorem rl_of {r : Rl} (h : mayRl r = true) : ∀ a ∈ r.alts, AlTx a := by
 unfold mayRl at h
 rw [Bool.and_eq_true, Bool.and_eq_true, List.all_eq_true] at h
 exact fun a ha => alTx_of (h.2.2 a ha)
theorem so_of {s : So} (h : maySo s = true) : (∀ d ∈ s.decls, mayDc d = true) ∧ ∀ r ∈ s.rules, mayRl r = true := by
 unfold maySo at h
 rw [Bool.and_eq_true, Bool.and_eq_true, Bool.and_eq_true, List.all_eq_true, List.all_eq_true] at h
 exact ⟨h.2.1, h.2.2.1⟩
theorem kinds {k : Int} (h : 1 ≤ k ∧ k ≤ 6) : k = 1 ∨ k = 2 ∨ k = 3 ∨ k = 4 ∨ k = 5 ∨ k = 6 := by omega
theorem keys_cell (w : World) (B j : Nat) (hB : B = w.heap.size) : (w.alloc (.cells keyCells 9)).cell? ⟨B, j, none⟩ = keyCells[j]? := cell_top w _ _ B j hB
end
section
open Go.RowKit
set_option linter.unusedVariables false
set_option linter.unusedSimpArgs false

theorem join_sp (x : ByteArray) (l : List ByteArray) : Lib.join ((x :: l).map (·.data.toList)) [32] = x.data.toList ++ tailSp l := by
 induction l generalizing x with
 | nil => simp [Lib.join, tailSp]
 | cons y l ih =>
   have e : Lib.join ((x :: y :: l).map (·.data.toList)) [32] = x.data.toList ++ [32] ++ Lib.join ((y :: l).map (·.data.toList)) [32] := by
    simp [Lib.join]
   rw [e, ih]
   simp [tailSp]
theorem tailSp_len (l : List ByteArray) (C : Nat) (h : ∀ y ∈ l, y.size ≤ C) : (tailSp l).length ≤ l.length * (C + 1) := by
 induction l with
 | nil => simp [tailSp]
 | cons y l ih =>
   have h1 := h y (by simp)
   have h2 := ih (fun z hz => h z (by simp [hz]))
   have e : tailSp (y :: l) = 32 :: y.data.toList ++ tailSp l := by simp [tailSp]
   have e2 : y.data.toList.length = y.size := rfl
   rw [e, List.length_append, List.length_cons, e2, List.length_cons, Nat.succ_mul]
   omega
/-- a row of its own that is not empty, opened -/
theorem OwnS.open {base : Nat} {w : World} {v : Value} {x : ByteArray} {l : List ByteArray} (h : OwnS base w v (x :: l)) : ∃ g cap, v = .slice (some ⟨g, 0, none⟩) (x :: l).length cap ∧ g < w.heap.size ∧ (x :: l).length ≤ cap ∧
  ∀ (j : Nat) y, (x :: l)[j]? = some y → w.cell? ⟨g, 0 + j, none⟩ = some (.string y) := by
 obtain ⟨h1, h2⟩ := h
 rcases h2 with ⟨_, h0⟩ | ⟨g, cap, cur, rfl, hg, hh, hn, hc, hs, ht⟩
 · simp at h0
 · refine ⟨g, cap, rfl, lt_of_block hh, hn, fun j y hj => ?_⟩
   have hj' : j < (x :: l).length := (List.getElem?_eq_some_iff.1 hj).1
   rw [Nat.zero_add, cell_of_row w g j cur _ (0, 0) hh]
   have : ((x :: l).map Value.string)[j]? = some (.string y) := by rw [List.getElem?_map, hj]; rfl
   rw [← ht, List.getElem?_take, if_pos (by omega)] at this
   simpa using this

theorem join_any (v : Value) (x : ByteArray) (l : List ByteArray) (base : Nat) (w : World) (h : OwnS base w v (x :: l)) (hl : (x :: l).length ≤ 200000) (hz : (x.data.toList ++ tailSp l).length ≤ 140737488355328) :
  Calls Tryd.prog 38 #[v, .string ⟨#[32]⟩] w fun e w' => e = .returned (.string ⟨(x.data.toList ++ tailSp l).toArray⟩) ∧ Below w.heap.size w w' := by
 obtain ⟨g, cap, rfl, hg, hle, hcs⟩ := h.open
 refine (Tryd.strings_Join g 0 cap (x :: l) ⟨#[32]⟩ w hcs hg (by omega) hle (by show (Lib.join _ [32]).length ≤ _; rw [join_sp]; exact hz)).mono ?_
 rintro e w' ⟨he, hb⟩
 refine ⟨he.trans ?_, hb⟩
 show Ending.returned (.string ⟨(Lib.join _ [32]).toArray⟩) = _
 rw [join_sp]

theorem declSm_size (x : Sm) (h : SmSmall x) (h0 : 0 ≤ x.num) (h1 : x.num ≤ 50000) : (∀ y ∈ declSm x, y.size ≤ 1000000) ∧ (declSm x).length ≤ 2 := by
 have hn := numT_le x.num h0 h1
 have hs := symT_size x h
 unfold declSm
 split
 · refine ⟨fun y hy => ?_, by simp⟩
   obtain rfl : y = symT x := by simpa using hy
   exact hs
 · refine ⟨fun y hy => ?_, by simp⟩
   rcases (by simpa using hy : y = symT x ∨ y = numT x.num) with rfl | rfl
   · exact hs
   · omega
theorem flat_len {α β : Type} (f : α → List β) (l : List α) (C : Nat) (h : ∀ x ∈ l, (f x).length ≤ C) : (l.flatMap f).length ≤ l.length * C := by
 induction l with
 | nil => simp
 | cons x l ih =>
   have h1 := h x (by simp)
   have h2 := ih (fun z hz => h z (by simp [hz]))
   rw [List.flatMap_cons, List.length_append, List.length_cons, Nat.succ_mul]; omega
theorem declT_len (d : Dc) (hs : DcSmall d) (hm : mayDc d = true) (hf : d.syms.length ≤ 401) : (declT d).length ≤ 900000000 ∧ (keyS d.kind :: declTl d).length ≤ 200000 := by
 have hd := dc_of hm
 have h1 := flat_len declSm d.syms 2 (fun x hx => (declSm_size x (hs.2 x hx) (hd.2 x hx).2.1 (hd.2 x hx).2.2).2)
 have hl : (declTl d).length ≤ 803 := by
  unfold declTl
  rw [List.length_append]
  split <;> simp at * <;> omega
 have h2 := tailSp_len (declTl d) 1000002 (fun y hy => by
  unfold declTl at hy
  rcases List.mem_append.1 hy with hy | hy
  · split at hy
    · simp at hy
    · obtain rfl : y = (⟨#[60]⟩ : ByteArray) ++ d.tag ++ ⟨#[62]⟩ := by simpa using hy
      rw [ByteArray.size_append, ByteArray.size_append]
      have := hs.1
      have e1 : (⟨#[60]⟩ : ByteArray).size = 1 := rfl
      have e2 : (⟨#[62]⟩ : ByteArray).size = 1 := rfl
      omega
  · obtain ⟨x, hx, hy⟩ := List.mem_flatMap.1 hy
    have := (declSm_size x (hs.2 x hx) (hd.2 x hx).2.1 (hd.2 x hx).2.2).1 y hy
    omega)
 have hk := keyS_size d.kind
 have hk' : (keyS d.kind).data.toList.length = (keyS d.kind).size := rfl
 refine ⟨?_, by rw [List.length_cons]; omega⟩
 unfold declT
 rw [List.length_append, hk']
 have : (declTl d).length * (1000002 + 1) ≤ 803 * 1000003 := Nat.mul_le_mul_right _ hl
 omega
theorem ruleT_len (r : Rl) (hs : RlSmall r) (hf : RlFew r) : (ruleT r).length ≤ 170000000000 ∧ (r.left :: ruleTl r).length ≤ 200000 := by
 have hb : (∀ y ∈ barL r.alts, y.size ≤ 1000000) ∧ (barL r.alts).length ≤ 162004 := by
  have ha : ∀ a ∈ r.alts, (∀ y ∈ altL a, y.size ≤ 1000000) ∧ (altL a).length ≤ 403 := fun a ha => by
   refine ⟨fun y hy => ?_, altL_len a (hf.2 a ha)⟩
   unfold altL at hy
   rcases List.mem_append.1 hy with hy | hy
   · obtain ⟨p, hp, rfl⟩ := List.mem_map.1 hy
     exact partT_size p ((hs.2 a ha).1 p hp)
   · split at hy
     · simp at hy
     · rcases (by simpa using hy : y = (⟨#[37, 112, 114, 101, 99]⟩ : ByteArray) ∨ y = symT a.prec) with rfl | rfl
       · decide
       · exact symT_size _ (hs.2 a ha).2
  have hn := hf.1
  generalize r.alts = l at ha hn
  cases l with
  | nil => simp [barL]
  | cons a l =>
    unfold barL
    have h1 := flat_len (fun b => (⟨#[124]⟩ : ByteArray) :: altL b) l 404 (fun b hb => by have := (ha b (by simp [hb])).2; simp; omega)
    refine ⟨fun y hy => ?_, ?_⟩
    · rcases List.mem_append.1 hy with hy | hy
      · exact (ha a (by simp)).1 y hy
      · obtain ⟨b, hb, hy⟩ := List.mem_flatMap.1 hy
        rcases List.mem_cons.1 hy with rfl | hy
        · decide
        · exact (ha b (by simp [hb])).1 y hy
    · have := (ha a (by simp)).2
      rw [List.length_append]
      rw [List.length_cons] at hn
      omega
 have hl : (ruleTl r).length ≤ 162006 := by
  unfold ruleTl
  simp
  omega
 have h2 := tailSp_len (ruleTl r) 1000000 (fun y hy => by
  unfold ruleTl at hy
  rcases List.mem_append.1 hy with hy | hy
  · rcases List.mem_append.1 hy with hy | hy
    · obtain rfl : y = (⟨#[58]⟩ : ByteArray) := by simpa using hy
      decide
    · exact hb.1 y hy
  · obtain rfl : y = (⟨#[59]⟩ : ByteArray) := by simpa using hy
    decide)
 have hk := hs.1
 have hk' : r.left.data.toList.length = r.left.size := rfl
 refine ⟨?_, by rw [List.length_cons]; omega⟩
 unfold ruleT
 rw [List.length_append, hk']
 have : (ruleTl r).length * (1000000 + 1) ≤ 162006 * 1000001 := Nat.mul_le_mul_right _ hl
 omega
end
section
open Go.RowKit
set_option linter.unusedVariables false
set_option linter.unusedSimpArgs false

set_option maxRecDepth 100000 in
set_option maxHeartbeats 16000000 in
theorem ptext_any (v : Value) (s : So) (w : World) (h : SoV w v s) (hs : SoSmall s) (hf : SoFew s) (hE : Env w) : Calls Tryd.prog 18 #[v] w (TellsTx (soT s) w) := by
 have HM := Lib.hid (fun (W : World) (hW : Below w.heap.size w W) => pmay_any v s W (h.below hW) hs (hE.below hW).max)
 obtain ⟨dv, rv, rfl, hd, hr⟩ := h
 obtain ⟨a1, n1, c1, rfl, hn1, hc1, hm1, hx1⟩ := hd.open
 obtain ⟨a2, n2, c2, rfl, hn2, hc2, hm2, hx2⟩ := hr.open
 have HR : Hid (soT s = if maySo s = true then proT s.pro ++ s.decls.flatMap (fun d => declT d ++ [10]) ++ [37, 37, 10] ++ s.rules.flatMap (fun r => ruleT r ++ [10]) ++ tailT s.tail else []) := Lib.hid rfl
 have HOD' := Lib.hid (fun (h : maySo s = true) d (hd : d ∈ s.decls) => And.intro (declT_len d (hs.2.2.1 d hd) ((so_of h).1 d hd) (hf.2.2.1 d hd)).1 (And.intro (declT_len d (hs.2.2.1 d hd) ((so_of h).1 d hd) (hf.2.2.1 d hd)).2 (And.intro (hs.2.2.1 d hd).1 (And.intro (dc_of ((so_of h).1 d hd)).2 (hf.2.2.1 d hd)))))
 have HOR' := Lib.hid (fun (h : maySo s = true) r (hr : r ∈ s.rules) => And.intro (ruleT_len r (hs.2.2.2 r hr) (hf.2.2.2 r hr)).1 (And.intro (ruleT_len r (hs.2.2.2 r hr) (hf.2.2.2 r hr)).2 (And.intro (hs.2.2.2 r hr) (And.intro (rl_of ((so_of h).2 r hr)) (hf.2.2.2 r hr)))))
 have HE := Lib.hid hE
 have hz1 := hs.1
 have hz2 := hs.2.1
 have hn1' : n1 ≤ 401 := by rw [hn1.out]; exact hf.1
 have hn2' : n2 ≤ 401 := by rw [hn2.out]; exact hf.2.1
 generalize soT s = R at HR ⊢
 generalize maySo s = mb at HM HR HOD' HOR'
 obtain ⟨pr, ds, rs, ta⟩ := s
 simp only at *
 clear hd hr hs hf hE hc1 hm1 hc2 hm2
 have hba := (Below.refl w.heap.size w).alloc (Nat.le_refl _) (.cells #[.string pr, .slice a1 n1 c1, .slice a2 n2 c2, .string ta] 29)
 have HC := Lib.hid (fun W hW => box1 (w := w) (A := #[.string pr, .slice a1 n1 c1, .slice a2 n2 c2, .string ta]) (T := 29) (W := W) hW)
 go_enter Tryd.func18, Tryd.ntmps18
 have q0 := HC.out _ (Below.refl _ _) 0 _ rfl
 have q1 := HC.out _ (Below.refl _ _) 1 _ rfl
 have q2 := HC.out _ (Below.refl _ _) 2 _ rfl
 have q3 := HC.out _ (Below.refl _ _) 3 _ rfl
 cases mb with
 | false =>
   go_wp2_with (first | (go_at_call 16; refine (HM.out _ hba).mono ?_; rintro e w9 ⟨rfl, hb9⟩))
   go_ret
   exact ⟨_, rfl, by rw [HR.out]; rfl, hba.trans (hb9.mono hba.size)⟩
 | true =>
   have HOD := Lib.hid (fun d hd => HOD'.out rfl d hd)
   have HOR := Lib.hid (fun r hr => HOR'.out rfl r hr)
   have HR2 : Hid (R = proT pr ++ ds.flatMap (fun d => declT d ++ [10]) ++ [37, 37, 10] ++ rs.flatMap (fun r => ruleT r ++ [10]) ++ tailT ta) := Lib.hid (by rw [HR.out]; rfl)
   clear HR HOD' HOR'
   go_upto_if 13 with (first | (go_at_call 16; refine (HM.out _ hba).mono ?_; rintro e w9 ⟨rfl, hb9⟩; have q0' := HC.out _ hb9 0 _ rfl; have q0'' := cell_alloc q0' (.cells #[.pointer none, .slice none 0 0] 87)))
   have hw9 := hba.trans (hb9.mono hba.size)
   have hBd0 := Lib.fresh_isBuilder 87 5 w9
   have hbB := (Below.refl w9.heap.size w9).alloc (Nat.le_refl _) (.cells #[.pointer none, .slice none 0 0] 87)
   clear q0 q1 q2 q3 HM q0'
   generalize w9.alloc (.cells #[.pointer none, .slice none 0 0] 87) = wB at hBd0 hbB q0'' ⊢
   go_cut [] from 13 to 18 (fun wx => Lib.IsBuilder 87 5 w9.heap.size w9.heap.size (Lib.byteCells (proT pr)) wx ∧ Below w9.heap.size w9 wx)
   case first =>
    clear hx1 hx2 HOD HOR HR2 HE HC
    by_cases h0 : pr.size = 0
    · have d1 : (!pr.toList.isEmpty) = false := by rw [str_empty h0]; rfl
      have HP : Hid (proT pr = []) := Lib.hid (by unfold proT; rw [if_pos h0])
      clear h0
      rw [d1]
      go_wp2_with fail
      go_meet
      case rel => exact ⟨by rw [HP.out]; exact hBd0, hbB⟩
    · have d1 : (!pr.toList.isEmpty) = true := by rw [str_some h0]; rfl
      have HP : Hid (proT pr = [37, 123] ++ pr.data.toList ++ [37, 125, 10]) := Lib.hid (by unfold proT; rw [if_neg h0])
      have e1 : (⟨#[37, 123]⟩ : ByteArray).size = 2 := rfl
      have e2 : (⟨#[37, 125, 10]⟩ : ByteArray).size = 3 := rfl
      have hz3 : ((⟨#[37, 123]⟩ : ByteArray) ++ pr ++ ⟨#[37, 125, 10]⟩).size ≤ 1000010 := by rw [ByteArray.size_append, ByteArray.size_append]; omega
      clear h0
      rw [d1]
      go_wp2_with (first | (go_at_call 37; refine (writeString_any w9.heap.size w9.heap.size _ _ _ hBd0 (by simp only [List.length_nil]; omega) hbB.size).mono ?_; rintro e w7 ⟨rfl, hB7, hb7⟩))
      go_meet
      case rel => exact ⟨.inr (by
       have e3 : Lib.byteCells (proT pr) = [] ++ Lib.strCells ((⟨#[37, 123]⟩ : ByteArray) ++ pr ++ ⟨#[37, 125, 10]⟩) := by
        rw [HP.out]; show _ = Lib.byteCells ((_ : ByteArray).data.toList); rw [ba_data, ba_data]
       rw [e3]; exact hB7), hbB.trans hb7⟩
   case rest =>
    obtain ⟨hBd, hbr⟩ := hcut
    clear hBd0 hbB q0''
    have hPl : (proT pr).length ≤ 1000010 := by
     unfold proT; split
     · simp
     · have : pr.data.toList.length = pr.size := rfl
       simp [this]; omega
    have q1 := HC.out wc (hb9.trans (hbr.mono hb9.size)) 1 _ rfl
    go_wp2_with fail
    go_loopw [22] (fun i wr => ∃ k : Nat, k ≤ n1 ∧ i = .int .i64 k ∧ Lib.IsBuilder 87 5 w9.heap.size w9.heap.size (Lib.byteCells (proT pr ++ (ds.take k).flatMap (fun d => declT d ++ [10]))) wr ∧ Below w9.heap.size w9 wr ∧ (proT pr ++ (ds.take k).flatMap (fun d => declT d ++ [10])).length ≤ 1000010 + k * 900000001) (fun i _ => n1 - (intOf i).toNat)
    case atStart => exact ⟨0, Nat.zero_le _, rfl, by simpa using hBd, hbr, by simpa using hPl⟩
    case round =>
     clear q1 hBd hbr
     obtain ⟨k, hk, rfl, hBd, hbr, hlb⟩ := hrel
     rename World => wr
     have q3 := HC.out wr (hb9.trans (hbr.mono hb9.size)) 2 _ rfl
     have q1 := HC.out wr (hb9.trans (hbr.mono hb9.size)) 3 _ rfl
     have hbw := hw9.trans (hbr.mono hw9.size)
     by_cases hlt : k < n1
     · obtain ⟨b, o, x, sx, rfl, ex, hsx, x0, x1, x2, x3⟩ := hx1.out k hlt
       obtain ⟨ax, nx, cx, rfl, hnx, _⟩ := hsx.open
       have hb1 := World.block_lt_of_cell? _ _ x0
       replace x0 := (hbw.cell (p := ⟨b, o + k * 4, none⟩) hb1).trans x0
       replace x1 := (hbw.cell (p := ⟨b, o + k * 4 + 1, none⟩) hb1).trans x1
       replace x2 := (hbw.cell (p := ⟨b, o + k * 4 + 2, none⟩) hb1).trans x2
       replace x3 := (hbw.cell (p := ⟨b, o + k * 4 + 3, none⟩) hb1).trans x3
       have hO := HOD.out x (mem_at ex)
       have HW := Lib.hid (fun (W : World) (hW : Below w.heap.size w W) => declWords_any (.agg #[.int .i64 x.kind, .string x.tag, .slice ax nx cx, .int .i64 x.pos]) x W ⟨_, rfl, hsx.below hW⟩ hO.2.2.1 hO.2.2.2.1 hO.2.2.2.2 (HE.out.below hW))
       have hlen := hO.1
       have hcnt := hO.2.1
       have HJ := Lib.hid (fun (v : Value) (W : World) (base : Nat) (h : OwnS base W v (keyS x.kind :: declTl x)) => join_any v _ _ base W h hcnt (by have h' := hlen; unfold declT at h'; omega))
       have HN := Lib.hid (flat_next (fun d => declT d ++ [10]) ex)
       have HD : Hid ((⟨((keyS x.kind).data.toList ++ tailSp (declTl x)).toArray⟩ : ByteArray).data.toList = declT x) := Lib.hid rfl
       have hJz : (⟨((keyS x.kind).data.toList ++ tailSp (declTl x)).toArray⟩ : ByteArray).size = (declT x).length := by rfl
       generalize (⟨((keyS x.kind).data.toList ++ tailSp (declTl x)).toArray⟩ : ByteArray) = J at HJ HD hJz
       generalize declT x = dT at HD HN hJz hlen
       obtain ⟨kd, tg, sy, po⟩ := x
       simp only at x0 x1 x2 x3 HW HJ
       have i1 : (k : Int) < (n1 : Int) := by omega
       have hbx := hbr.alloc hbr.size (.cells #[.int .i64 kd, .string tg, .slice ax nx cx, .int .i64 po] 51)
       have hwx := hbw.trans ((Below.refl wr.heap.size wr).alloc (Nat.le_refl _) (.cells #[.int .i64 kd, .string tg, .slice ax nx cx, .int .i64 po] 51) |>.mono hbw.size)
       have hBx := isBuilder_below hBd ((Below.refl wr.heap.size wr).alloc (Nat.le_refl _) (.cells #[.int .i64 kd, .string tg, .slice ax nx cx, .int .i64 po] 51))
       have e10 : (⟨#[10]⟩ : ByteArray).size = 1 := rfl
       have HT : Hid ((J ++ (⟨#[10]⟩ : ByteArray)).data.toList = dT ++ [10]) := Lib.hid (by rw [ba_data, HD.out])
       have hTz : (J ++ (⟨#[10]⟩ : ByteArray)).size = dT.length + 1 := by rw [ByteArray.size_append, hJz]; rfl
       clear ex hsx hx1 hx2 HOD HOR hBd hO q1 q3
       go_wp2_with (first | (go_at_call 39; refine (HW.out _ hwx).mono ?_; rintro e w5 ⟨⟨v5, rfl, hv5⟩, hb5⟩; have hB5 := isBuilder_below hBx hb5) | (go_at_call 38; refine (HJ.out _ _ _ hv5).mono ?_; rintro e w6 ⟨rfl, hb6⟩; have hB6 := isBuilder_below hB5 hb6) | (go_at_call 37; refine (writeString_any w9.heap.size w9.heap.size _ (J ++ (⟨#[10]⟩ : ByteArray)) _ hB6 (by rw [Lib.byteCells_length]; omega) (by have h5 := hb5.size; have h6 := hb6.size; have h7 := hbx.size; omega)).mono ?_; rintro e w7 ⟨rfl, hB7, hb7⟩))
       have hz7 := ((hbx.trans (hb5.mono hbx.size)).trans (hb6.mono (hbx.trans (hb5.mono hbx.size)).size)).trans hb7
       have HBN : Hid (Lib.byteCells (proT pr ++ (ds.take k).flatMap (fun d => declT d ++ [10])) ++ Lib.strCells (J ++ (⟨#[10]⟩ : ByteArray)) = Lib.byteCells (proT pr ++ (ds.take (k + 1)).flatMap (fun d => declT d ++ [10]))) := Lib.hid (by
        rw [HN.out]; show Lib.byteCells _ ++ Lib.byteCells ((J ++ (⟨#[10]⟩ : ByteArray)).data.toList) = _; rw [← Lib.byteCells_append, HT.out]; simp)
       go_roundw
       case rel => exact ⟨k + 1, by omega, by go_num, .inr (by rw [← HBN.out]; exact hB7), hz7, by rw [HN.out]; simp at *; omega⟩
       case measure => simp [intOf]; omega
     · have e1 : ds.take k = ds := List.take_of_length_le (by have := hn1.out; omega)
       rw [e1] at hBd hlb
       clear hx1 HOD
       go_wp2_with (first | (go_at_call 37; refine (writeString_any w9.heap.size w9.heap.size _ _ _ hBd (by rw [Lib.byteCells_length]; have e3 : (⟨#[37, 37, 10]⟩ : ByteArray).size = 3 := rfl; omega) hbr.size).mono ?_; rintro e w7 ⟨rfl, hB7, hb7⟩; have q3' := HC.out w7 (hb9.trans ((hbr.trans hb7).mono hb9.size)) 2 _ rfl))
       have hB8 : Lib.IsBuilder 87 5 w9.heap.size w9.heap.size (Lib.byteCells (proT pr ++ ds.flatMap (fun d => declT d ++ [10]) ++ [37, 37, 10])) w7 := .inr (by rw [Lib.byteCells_append]; exact hB7)
       have hl8 : (proT pr ++ ds.flatMap (fun d => declT d ++ [10]) ++ [37, 37, 10]).length ≤ 400000000000 := by rw [List.length_append]; simp only [List.length_cons, List.length_nil]; omega
       have hb8 := hbr.trans hb7
       generalize proT pr ++ ds.flatMap (fun d => declT d ++ [10]) ++ [37, 37, 10] = B2 at hB8 hl8 HR2
       clear hB7 hb7 hBd hlb q1 q3 hlt hPl
       go_loopw [36] (fun i wr => ∃ k : Nat, k ≤ n2 ∧ i = .int .i64 k ∧ Lib.IsBuilder 87 5 w9.heap.size w9.heap.size (Lib.byteCells (B2 ++ (rs.take k).flatMap (fun r => ruleT r ++ [10]))) wr ∧ Below w9.heap.size w9 wr ∧ (B2 ++ (rs.take k).flatMap (fun r => ruleT r ++ [10])).length ≤ 400000000000 + k * 170000000001) (fun i _ => n2 - (intOf i).toNat)
       case atStart => exact ⟨0, Nat.zero_le _, rfl, by simpa using hB8, hb8, by simpa using hl8⟩
       case round =>
        clear hB8 hbr hb8 hbw hk q3'
        obtain ⟨k, hk, rfl, hBd, hbr, hlb⟩ := hrel
        rename World => wr
        have q3 := HC.out wr (hb9.trans (hbr.mono hb9.size)) 3 _ rfl
        have hbw := hw9.trans (hbr.mono hw9.size)
        by_cases hlt : k < n2
        · obtain ⟨b, o, x, sx, rfl, ex, hsx, x0, x1, x2⟩ := hx2.out k hlt
          obtain ⟨ax, nx, cx, rfl, hnx, _⟩ := hsx.open
          have hb1 := World.block_lt_of_cell? _ _ x0
          replace x0 := (hbw.cell (p := ⟨b, o + k * 3, none⟩) hb1).trans x0
          replace x1 := (hbw.cell (p := ⟨b, o + k * 3 + 1, none⟩) hb1).trans x1
          replace x2 := (hbw.cell (p := ⟨b, o + k * 3 + 2, none⟩) hb1).trans x2
          have hO := HOR.out x (mem_at ex)
          have HW := Lib.hid (fun (W : World) (hW : Below w.heap.size w W) => ruleWords_any (.agg #[.string x.left, .slice ax nx cx, .int .i64 x.pos]) x W ⟨_, rfl, hsx.below hW⟩ hO.2.2.1 hO.2.2.2.1 hO.2.2.2.2)
          have hlen := hO.1
          have hcnt := hO.2.1
          have HJ := Lib.hid (fun (v : Value) (W : World) (base : Nat) (h : OwnS base W v (x.left :: ruleTl x)) => join_any v _ _ base W h hcnt (by have h' := hlen; unfold ruleT at h'; omega))
          have HN := Lib.hid (flat_next (fun d => ruleT d ++ [10]) ex)
          have HD : Hid ((⟨(x.left.data.toList ++ tailSp (ruleTl x)).toArray⟩ : ByteArray).data.toList = ruleT x) := Lib.hid rfl
          have hJz : (⟨(x.left.data.toList ++ tailSp (ruleTl x)).toArray⟩ : ByteArray).size = (ruleT x).length := by rfl
          generalize (⟨(x.left.data.toList ++ tailSp (ruleTl x)).toArray⟩ : ByteArray) = J at HJ HD hJz
          generalize ruleT x = dT at HD HN hJz hlen
          obtain ⟨lf, sy, po⟩ := x
          simp only at x0 x1 x2 HW HJ
          have i1 : (k : Int) < (n2 : Int) := by omega
          have hbx := hbr.alloc hbr.size (.cells #[.string lf, .slice ax nx cx, .int .i64 po] 37)
          have hwx := hbw.trans ((Below.refl wr.heap.size wr).alloc (Nat.le_refl _) (.cells #[.string lf, .slice ax nx cx, .int .i64 po] 37) |>.mono hbw.size)
          have hBx := isBuilder_below hBd ((Below.refl wr.heap.size wr).alloc (Nat.le_refl _) (.cells #[.string lf, .slice ax nx cx, .int .i64 po] 37))
          have e10 : (⟨#[10]⟩ : ByteArray).size = 1 := rfl
          have HT : Hid ((J ++ (⟨#[10]⟩ : ByteArray)).data.toList = dT ++ [10]) := Lib.hid (by rw [ba_data, HD.out])
          have hTz : (J ++ (⟨#[10]⟩ : ByteArray)).size = dT.length + 1 := by rw [ByteArray.size_append, hJz]; rfl
          clear ex hsx hx2 HOR hBd hO q3
          go_wp2_with (first | (go_at_call 40; refine (HW.out _ hwx).mono ?_; rintro e w5 ⟨⟨v5, rfl, hv5⟩, hb5⟩; have hB5 := isBuilder_below hBx hb5) | (go_at_call 38; refine (HJ.out _ _ _ hv5).mono ?_; rintro e w6 ⟨rfl, hb6⟩; have hB6 := isBuilder_below hB5 hb6) | (go_at_call 37; refine (writeString_any w9.heap.size w9.heap.size _ (J ++ (⟨#[10]⟩ : ByteArray)) _ hB6 (by rw [Lib.byteCells_length]; omega) (by have h5 := hb5.size; have h6 := hb6.size; have h7 := hbx.size; omega)).mono ?_; rintro e w7 ⟨rfl, hB7, hb7⟩))
          have hz7 := ((hbx.trans (hb5.mono hbx.size)).trans (hb6.mono (hbx.trans (hb5.mono hbx.size)).size)).trans hb7
          have HBN : Hid (Lib.byteCells (B2 ++ (rs.take k).flatMap (fun r => ruleT r ++ [10])) ++ Lib.strCells (J ++ (⟨#[10]⟩ : ByteArray)) = Lib.byteCells (B2 ++ (rs.take (k + 1)).flatMap (fun r => ruleT r ++ [10]))) := Lib.hid (by
           rw [HN.out]; show Lib.byteCells _ ++ Lib.byteCells ((J ++ (⟨#[10]⟩ : ByteArray)).data.toList) = _; rw [← Lib.byteCells_append, HT.out]; simp)
          go_roundw
          case rel => exact ⟨k + 1, by omega, by go_num, .inr (by rw [← HBN.out]; exact hB7), hz7, by rw [HN.out]; simp at *; omega⟩
          case measure => simp [intOf]; omega
        · have e1 : rs.take k = rs := List.take_of_length_le (by have := hn2.out; omega)
          rw [e1] at hBd hlb
          clear hx2 HOR
          by_cases h0 : ta.size = 0
          · have d1 : (!ta.toList.isEmpty) = false := by rw [str_empty h0]; rfl
            have d2 := str_empty h0
            have HP : Hid (R = B2 ++ rs.flatMap (fun r => ruleT r ++ [10])) := Lib.hid (by rw [HR2.out]; unfold tailT; rw [if_pos h0]; simp)
            go_wp2_with (first | (go_at_call 41; refine (Tryd.Builder_String_any w9.heap.size w9.heap.size _ wr hBd hbr.size).mono ?_; rintro e w7 ⟨rfl, hb7⟩))
            go_ret
            exact ⟨_, rfl, by rw [HP.out]; try rfl, hw9.trans ((hbr.trans hb7).mono hw9.size)⟩
          · have d1 : (!ta.toList.isEmpty) = true := by rw [str_some h0]; rfl
            have d2 := str_some h0
            have e2 : (⟨#[37, 37]⟩ : ByteArray).size = 2 := rfl
            have hz3 : ((⟨#[37, 37]⟩ : ByteArray) ++ ta).size ≤ 1000010 := by rw [ByteArray.size_append]; omega
            have HP : Hid (R = B2 ++ rs.flatMap (fun r => ruleT r ++ [10]) ++ ((⟨#[37, 37]⟩ : ByteArray) ++ ta).data.toList) := Lib.hid (by rw [HR2.out]; unfold tailT; rw [if_neg h0, ba_data])
            go_wp2_with (first | (go_at_call 37; refine (writeString_any w9.heap.size w9.heap.size _ _ _ hBd (by rw [Lib.byteCells_length]; omega) hbr.size).mono ?_; rintro e w7 ⟨rfl, hB7, hb7⟩; have hB8 : Lib.IsBuilder 87 5 w9.heap.size w9.heap.size (Lib.byteCells (B2 ++ rs.flatMap (fun r => ruleT r ++ [10]) ++ ((⟨#[37, 37]⟩ : ByteArray) ++ ta).data.toList)) w7 := .inr (by rw [Lib.byteCells_append]; exact hB7)) | (go_at_call 41; refine (Tryd.Builder_String_any w9.heap.size w9.heap.size _ w7 hB8 (hbr.trans hb7).size).mono ?_; rintro e w8 ⟨rfl, hb8⟩))
            go_ret
            exact ⟨_, rfl, by rw [HP.out]; first | done | rfl | simp, hw9.trans (((hbr.trans hb7).trans hb8).mono hw9.size)⟩
end
end Go.Proofs.YtnoppoifepbchaaDoor
