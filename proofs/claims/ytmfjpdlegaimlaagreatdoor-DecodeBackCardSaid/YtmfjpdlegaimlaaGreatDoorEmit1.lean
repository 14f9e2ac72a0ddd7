/- emit.List and the document's List tell the same line. -/
import Derived.Test.YtmfjpdlegaimlaaGreatDoorEnvZ
namespace Go.Proofs.YtmfjpdlegaimlaaGreatDoor
open Go.RowKit
set_option linter.unusedVariables false
set_option linter.unusedSimpArgs false

theorem own_below {w w' : World} {base : Nat} {e : TypeId} {size n : Nat} {v : Value} {xs : List Value} (h : w.ownsRow base e size v n xs) (hb : Below w.heap.size w w') : w'.ownsRow base e size v n xs := by
  obtain ⟨h1, h2⟩ := h
  refine ⟨h1, ?_⟩
  rcases h2 with h2 | ⟨g, cap, cur, hv, hg, hh, r⟩
  · exact .inl h2
  · exact .inr ⟨g, cap, cur, hv, hg, block_below hh hb (lt_of_block hh), r⟩
theorem Tryz.infoStr : (Tryz.prog.info? 9).map (fun i => (i.zero, i.size, i.bytes)) = some (some (.string ByteArray.empty), 1, 16) := by kernel_rfl
/-- texts that a call puts together in a row of its own -/
def OwnS (base : Nat) (w : World) (v : Value) (l : List ByteArray) : Prop := w.ownsRow base 9 1 v l.length (l.map .string)
theorem strs_one (l : List ByteArray) : ∀ u ∈ l.map Value.string, u.oneCell' = true := by
  intro u hu
  obtain ⟨s, _, rfl⟩ := List.mem_map.1 hu
  rfl
theorem OwnS.nil (base : Nat) (w : World) : OwnS base w (.slice none 0 0) [] := World.ownsRow_nil _ _ _ _
theorem OwnS.below {base : Nat} {w w' : World} {v : Value} {l : List ByteArray} (h : OwnS base w v l) (hb : Below w.heap.size w w') : OwnS base w' v l := own_below h hb
theorem OwnS.new1 {base : Nat} {w : World} (y : ByteArray) (hb : base ≤ w.heap.size) : OwnS base (w.alloc (.cells #[.string y] 9)) (.slice (some ⟨w.heap.size, 0, none⟩) 1 1) [y] :=
  ⟨rfl, .inr ⟨w.heap.size, 1, _, rfl, hb, heap_alloc_new _ _, Nat.le_refl _, by unfold maxLen; omega, rfl, rfl⟩⟩
theorem OwnS.new2 {base : Nat} {w : World} (x y : ByteArray) (hb : base ≤ w.heap.size) : OwnS base (w.alloc (.cells #[.string x, .string y] 9)) (.slice (some ⟨w.heap.size, 0, none⟩) 2 2) [x, y] :=
  ⟨rfl, .inr ⟨w.heap.size, 2, _, rfl, hb, heap_alloc_new _ _, Nat.le_refl _, by unfold maxLen; omega, rfl, rfl⟩⟩
theorem OwnS.src {base : Nat} {w : World} {v : Value} {l : List ByteArray} (h : OwnS base w v l) : SrcV w v l.length (l.map .string) := by
  obtain ⟨h1, h2⟩ := h
  rcases h2 with ⟨rfl, h0⟩ | ⟨g, cap, cur, rfl, hg, hh, hn, hc, hs, ht⟩
  · exact .inl ⟨rfl, h0, by simp [List.eq_nil_of_length_eq_zero h0]⟩
  · refine .inr ⟨_, cap, rfl, fun j u hj => ?_⟩
    have hj' : j < l.length := by have := (List.getElem?_eq_some_iff.1 hj).1; simpa using this
    rw [addr_add, Nat.zero_add, cell_of_row w g j cur _ (0, 0) hh, ← hj, ← ht, List.getElem?_take, if_pos (by omega)]
    simp
theorem SrcV.below {w w' : World} {v : Value} {m : Nat} {news : List Value} (h : SrcV w v m news) (hb : Below w.heap.size w w') : SrcV w' v m news := by
  rcases h with h | ⟨ad, c, hv, hc⟩
  · exact .inl h
  · exact .inr ⟨ad, c, hv, fun j u hj => (hb.cell (World.block_lt_of_cell? _ _ (hc j u hj))).trans (hc j u hj)⟩
theorem OwnS.alloc {base : Nat} {w : World} {v : Value} {l : List ByteArray} (h : OwnS base w v l) (o : Obj) : OwnS base (w.alloc o) v l := h.below ((Below.refl _ _).alloc (Nat.le_refl _) o)
theorem src_at (w : World) (x : Value) (E : TypeId) (B : Nat) (hB : B = w.heap.size) : SrcV (w.alloc (.cells #[x] E)) (.slice (some ⟨B, 0, none⟩) 1 1) 1 [x] := by
  subst hB; exact SrcV.new w x E
theorem src_two (w : World) (x y : Value) (E : TypeId) : SrcV (w.alloc (.cells #[x, y] E)) (.slice (some ⟨w.heap.size, 0, none⟩) 2 2) 2 [x, y] := by
  refine .inr ⟨_, _, rfl, fun j u hj => ?_⟩
  match j, hj with
  | 0, hj => simp at hj; subst hj; exact cell_top w _ _ _ 0 rfl
  | 1, hj => simp at hj; subst hj; exact cell_top w _ _ _ 1 rfl
theorem OwnS.one {base : Nat} {w : World} {v : Value} {l : List ByteArray} {y : ByteArray} (h : w.ownsRow base 9 1 v (l.length + 1) (l.map Value.string ++ [.string y])) : OwnS base w v (l ++ [y]) := by
  unfold OwnS; simpa using h
theorem OwnS.two {base : Nat} {w : World} {v : Value} {l : List ByteArray} {x y : ByteArray} (h : w.ownsRow base 9 1 v (l.length + 2) (l.map Value.string ++ [.string x, .string y])) : OwnS base w v (l ++ [x, y]) := by
  unfold OwnS; simpa using h


/-! ### the line -/
theorem ba_empty (a : ByteArray) : a ++ ByteArray.empty = a := by
  apply ByteArray.ext; rw [ByteArray.data_append]; simp [ByteArray.empty, ByteArray.emptyWithCapacity]; rfl
theorem itoa_len (n : Int) (h0 : -9223372036854775808 ≤ n) (h1 : n ≤ 9223372036854775807) : (Lib.itoa n).length ≤ 20 := by
  have h2 := nDig_le 18 n.natAbs (by omega)
  unfold Lib.itoa
  split
  · rw [List.length_cons, Lib.decDigits_length]; omega
  · rw [Lib.decDigits_length, show n.toNat = n.natAbs by omega]; omega
def InI (l : List Int) : Prop := ∀ x ∈ l, -9223372036854775808 ≤ x ∧ x ≤ 9223372036854775807
def joinI (l : List Int) : List UInt8 := Lib.join (l.map Lib.itoa) [44, 32]
theorem joinI_nil : joinI [] = [] := rfl
theorem joinI_snoc (l : List Int) (x : Int) : joinI (l ++ [x]) = if l = [] then Lib.itoa x else joinI l ++ [44, 32] ++ Lib.itoa x := by
  cases l with
  | nil => simp [joinI, Lib.join_one]
  | cons y r =>
    rw [if_neg (by simp)]
    unfold joinI
    rw [List.cons_append, List.map_cons, List.map_cons, Lib.join_cons, Lib.join_cons]
    simp [Lib.joinTail]
theorem joinI_len (l : List Int) (h : InI l) : (joinI l).length ≤ l.length * 22 := by
  cases l with
  | nil => exact Nat.zero_le _
  | cons y r =>
    unfold joinI
    rw [List.map_cons, Lib.join_cons, List.length_append]
    have h1 := itoa_len y (h y (by simp)).1 (h y (by simp)).2
    have h2 : ∀ r : List Int, InI r → (Lib.joinTail [44, 32] (r.map Lib.itoa)).length ≤ r.length * 22 := by
      intro r
      induction r with
      | nil => intro _; simp [Lib.joinTail]
      | cons z r ih =>
        intro hr
        have h3 := itoa_len z (hr z (by simp)).1 (hr z (by simp)).2
        have h4 := ih (fun x hx => hr x (by simp [hx]))
        have e : Lib.joinTail [44, 32] ((z :: r).map Lib.itoa) = [44, 32] ++ Lib.itoa z ++ Lib.joinTail [44, 32] (r.map Lib.itoa) := by simp [Lib.joinTail]
        rw [e]
        simp only [List.length_append, List.length_cons, List.length_nil]
        omega
    have h3 := h2 r (fun x hx => h x (by simp [hx]))
    rw [List.length_cons]; omega
def headS (name : ByteArray) : ByteArray := (⟨#[118, 97, 114, 32]⟩ : ByteArray) ++ name ++ ⟨#[32, 61, 32, 91, 93, 105, 110, 116, 123]⟩
def listS (name : ByteArray) (l : List Int) : ByteArray := headS name ++ ⟨(joinI l).toArray⟩ ++ ⟨#[125]⟩
theorem headS_size (name : ByteArray) : (headS name).size = name.size + 13 := by
  unfold headS
  rw [ByteArray.size_append, ByteArray.size_append]
  show 4 + name.size + 9 = _
  omega

theorem joinC_any (v : Value) (xs : List ByteArray) (base : Nat) (w : World) (h : OwnS base w v xs) (hl : xs.length ≤ 100000) (hz : (Lib.join (xs.map (·.data.toList)) [44, 32]).length ≤ 140737488355328) :
    Calls Tryz.prog 25 #[v, .string ⟨#[44, 32]⟩] w fun e w' => e = .returned (.string ⟨(Lib.join (xs.map (·.data.toList)) [44, 32]).toArray⟩) ∧ Below w.heap.size w w' := by
  obtain ⟨h1, h2⟩ := h
  rcases h2 with ⟨rfl, h0⟩ | ⟨g, cap, cur, rfl, hg, hh, hn, hc, hs, ht⟩
  · obtain rfl : xs = [] := List.eq_nil_of_length_eq_zero h0
    refine (Tryz.strings_Join_none none 0 ⟨#[44, 32]⟩ w).mono ?_
    rintro e w' ⟨rfl, rfl⟩
    exact ⟨rfl, Below.refl _ _⟩
  · refine (Tryz.strings_Join g 0 cap xs ⟨#[44, 32]⟩ w (fun j y hj => ?_) (lt_of_block hh) (by omega) hn hz).mono ?_
    · have hj' : j < xs.length := (List.getElem?_eq_some_iff.1 hj).1
      rw [Nat.zero_add, cell_of_row w g j cur _ (0, 0) hh]
      have : (xs.map Value.string)[j]? = some (.string y) := by rw [List.getElem?_map, hj]; rfl
      rw [← ht, List.getElem?_take, if_pos (by omega)] at this
      simpa using this
    · rintro e w' ⟨he, hb⟩
      exact ⟨he, hb⟩

set_option maxRecDepth 100000 in
set_option maxHeartbeats 4000000 in
theorem emitList_any (name : ByteArray) (v : Value) (l : List Int) (w : World) (hv : IntsV w v l) (hi : InI l) (hl : l.length ≤ 1000) (hn : name.size ≤ 1000) (hE : Env w) :
    Calls Tryz.prog 11 #[.string name, v] w fun e w' => e = .returned (.string (listS name l)) ∧ Below w.heap.size w w' := by
  obtain ⟨a, n, c, rfl, hnl, hnc, hcm, hx⟩ := hv.open
  have HI := Lib.hid hi
  have HE := Lib.hid hE
  have hn1 : n ≤ 1000 := by rw [hnl.out]; exact hl
  have HR : Hid (listS name l = (⟨#[118, 97, 114, 32]⟩ : ByteArray) ++ name ++ ⟨#[32, 61, 32, 91, 93, 105, 110, 116, 123]⟩ ++ ⟨(joinI l).toArray⟩ ++ ⟨#[125]⟩) := Lib.hid rfl
  have hjs : (⟨(joinI l).toArray⟩ : ByteArray).size ≤ 22000 := by
    have := joinI_len l hi
    have e : (⟨(joinI l).toArray⟩ : ByteArray).size = (joinI l).length := by show (joinI l).toArray.size = _; simp
    omega
  have HJ : Hid (∀ (W : World) (u : Value) (xs : List ByteArray), OwnS w.heap.size W u xs → xs = l.map numT → Calls Tryz.prog 25 #[u, .string ⟨#[44, 32]⟩] W fun e w' => e = .returned (.string ⟨(joinI l).toArray⟩) ∧ Below W.heap.size W w') := Lib.hid (fun W u xs ho he => by
    have e1 : xs.map (·.data.toList) = l.map Lib.itoa := by rw [he, List.map_map]; rfl
    have hlen : (Lib.join (xs.map (·.data.toList)) [44, 32]).length ≤ 140737488355328 := by
      rw [e1]; have := joinI_len l hi; unfold joinI at this; omega
    have h1 := joinC_any u xs w.heap.size W ho (by rw [he]; simp; omega) hlen
    rw [e1] at h1
    exact h1)
  generalize listS name l = R at HR ⊢
  generalize (⟨(joinI l).toArray⟩ : ByteArray) = J at HR hjs HJ
  clear hi hl hE hcm
  obtain ⟨i0, hi0, hz0, hz1, hz2⟩ := info_parts Tryz.infoStr
  go_enter Tryz.func11, Tryz.ntmps11
  go_wp2_with fail
  go_loopw [5, 10] (fun u i wr => ∃ (k : Nat) (xs : List ByteArray), k ≤ n ∧ i = .int .i64 k ∧ xs.length = k ∧ OwnS w.heap.size wr u xs ∧ Below w.heap.size w wr ∧ Hid (xs = (l.take k).map numT)) (fun u i _ => n - (intOf i).toNat)
  case atStart => exact ⟨0, [], Nat.zero_le _, rfl, rfl, OwnS.nil _ _, Below.refl _ _, Lib.hid rfl⟩
  case round =>
    obtain ⟨k, xs, hk, rfl, hxk, hown, hbr, hp⟩ := hrel
    have hbs := hbr.size
    by_cases hlt : k < n
    · obtain ⟨b, o, rfl, x0⟩ := hx.out k hlt
      have hb1 := World.block_lt_of_cell? _ _ x0
      replace x0 := (hbr.cell (p := ⟨b, o + k, none⟩) hb1).trans x0
      have hkl : k < l.length := by rw [← hnl.out]; exact hlt
      have eX : l.getD k 0 = l[k] := by rw [List.getD_eq_getElem?_getD, List.getElem?_eq_getElem hkl]; rfl
      have HB := HI.out (l.getD k 0) (by rw [eX]; exact List.getElem_mem hkl)
      have HT := Lib.hid (fun (W : World) (hW : Env W) => itoa_all (l.getD k 0) W HB.1 HB.2 hW)
      have hEr := Lib.hid (HE.out.below hbr)
      have HM : Hid (xs ++ [numT (l.getD k 0)] = (l.take (k + 1)).map numT) := Lib.hid (by
        rw [List.take_succ_eq_append_getElem hkl, List.map_append, ← hp.out, eX]; rfl)
      have i1 : (k : Int) < (n : Int) := by omega
      generalize numT (l.getD k 0) = T at HT HM
      generalize l.getD k 0 = X at x0 HT
      clear hx HI HJ HB hp eX
      go_wp2_with (first | (go_at_call 24; refine (HT.out _ hEr.out).mono ?_; rintro e w9 ⟨rfl, hb9⟩; have hown9 := hown.below hb9) | (at_builtin; refine wpList_append_src rfl _ _ 24 rfl w.heap.size 9 i0 (.string ByteArray.empty) 1 16 Tryz.underlying24 hi0 hz0 hz1 hz2 rfl (by decide) _ _ _ rfl (hown9.alloc _) _ 1 _ rfl (SrcV.new _ (.string T) _) rfl (strs_one [T]) ?c3 ?c4 ?c5 ?_))
      case c3 => unfold maxLen; omega
      case c4 => omega
      case c5 => have hs9 := hb9.size; rw [World.size_alloc]; omega
      have hs9 := hb9.size
      intro v' w4 hown' hgrow
      have hz4 := ((hbr.trans (hb9.mono hbr.size)).alloc (by omega) _).grown hgrow (by simp; omega) (own_base hown9 (by simp))
      go_wp2_with fail
      go_roundw
      case rel => exact ⟨k + 1, xs ++ [T], by omega, by go_num, by simp; omega, OwnS.one (by rw [hxk]; exact hown'), hz4, HM⟩
      case measure => simp [intOf]; omega
    · have e1 : l.take k = l := List.take_of_length_le (by have := hnl.out; omega)
      rw [e1] at hp
      have HJ2 := Lib.hid (HJ.out wr _ xs hown hp.out)
      clear hx HI HJ hp
      go_wp2_with (first | (go_at_call 25; refine HJ2.out.mono ?_; rintro e w9 ⟨rfl, hb9⟩))
      go_ret
      exact ⟨ret_str HR.out.symm, hbr.trans (hb9.mono hbr.size)⟩

set_option maxRecDepth 100000 in
set_option maxHeartbeats 4000000 in
theorem refList_any (name : ByteArray) (v : Value) (l : List Int) (w : World) (hv : IntsV w v l) (hi : InI l) (hl : l.length ≤ 1000) (hn : name.size ≤ 1000) :
    Calls Tryz.prog 36 #[.string name, v] w fun e w' => e = .returned (.string (listS name l)) ∧ Below w.heap.size w w' := by
  obtain ⟨a, n, c, rfl, hnl, hnc, hcm, hx⟩ := hv.open
  have HI := Lib.hid hi
  have hn1 : n ≤ 1000 := by rw [hnl.out]; exact hl
  have HR : Hid (listS name l = headS name ++ ⟨(joinI l).toArray⟩ ++ ⟨#[125]⟩) := Lib.hid rfl
  have HH : Hid ((⟨#[118, 97, 114, 32]⟩ : ByteArray) ++ name ++ ⟨#[32, 61, 32, 91, 93, 105, 110, 116, 123]⟩ = headS name) := Lib.hid rfl
  have hhs : Hid ((headS name).size = name.size + 13) := Lib.hid (headS_size name)
  generalize listS name l = R at HR ⊢
  generalize headS name = P at HR HH hhs
  clear hi hl hcm
  go_enter Tryz.func36, Tryz.ntmps36
  go_wp2_with fail
  go_loopw [5, 6] (fun u i wr => ∃ (k : Nat) (t : ByteArray), k ≤ n ∧ i = .int .i64 k ∧ u = .string t ∧ t.size ≤ 1013 + k * 22 ∧ Below w.heap.size w wr ∧ Hid (t = P ++ ⟨(joinI (l.take k)).toArray⟩)) (fun u i _ => n - (intOf i).toNat)
  case atStart => exact ⟨0, P, Nat.zero_le _, rfl, by rw [HH.out], by have := hhs.out; omega, Below.refl _ _, Lib.hid (by rw [List.take_zero, joinI_nil]; exact (ba_empty P).symm)⟩
  case round =>
    obtain ⟨k, t, hk, rfl, rfl, hts, hbr, hp⟩ := hrel
    have hbs := hbr.size
    by_cases hlt : k < n
    · obtain ⟨b, o, rfl, x0⟩ := hx.out k hlt
      have hb1 := World.block_lt_of_cell? _ _ x0
      replace x0 := (hbr.cell (p := ⟨b, o + k, none⟩) hb1).trans x0
      have hkl : k < l.length := by rw [← hnl.out]; exact hlt
      have eX : l.getD k 0 = l[k] := by rw [List.getD_eq_getElem?_getD, List.getElem?_eq_getElem hkl]; rfl
      have HB := HI.out (l.getD k 0) (by rw [eX]; exact List.getElem_mem hkl)
      have HT := Lib.hid (fun (W : World) => digits_all (l.getD k 0) W HB.1 HB.2)
      have hTs : (numT (l.getD k 0)).size ≤ 20 := by
        have := itoa_len (l.getD k 0) HB.1 HB.2
        have e : (numT (l.getD k 0)).size = (Lib.itoa (l.getD k 0)).length := by show (Lib.itoa (l.getD k 0)).toArray.size = _; simp
        omega
      have HM : Hid ((if k = 0 then t ++ numT (l.getD k 0) else t ++ ⟨#[44, 32]⟩ ++ numT (l.getD k 0)) = P ++ ⟨(joinI (l.take (k + 1))).toArray⟩) := Lib.hid (by
        rw [List.take_succ_eq_append_getElem hkl, joinI_snoc, hp.out, eX]
        by_cases h0 : k = 0
        · subst h0
          rw [if_pos rfl, if_pos (show l.take 0 = [] from rfl), List.take_zero, joinI_nil]
          have e : P ++ (⟨([] : List UInt8).toArray⟩ : ByteArray) = P := ba_empty P
          rw [e]; rfl
        · have hne : l.take k ≠ [] := by
            intro e
            have h8 := congrArg List.length e
            rw [List.length_take, Nat.min_eq_left (by omega)] at h8
            exact h0 h8
          rw [if_neg h0, if_neg hne]
          apply ByteArray.ext
          apply Array.toList_inj.1
          simp only [ByteArray.data_append, Array.toList_append, List.toList_toArray, List.append_assoc]
          rfl)
      have i1 : (k : Int) < (n : Int) := by omega
      generalize numT (l.getD k 0) = T at HT HM hTs
      generalize l.getD k 0 = X at x0 HT
      clear hx HI HB hp eX HR HH hhs
      by_cases h0 : k = 0
      · have i2 : ¬ ((0 : Int) < (k : Int)) := by omega
        have HM2 : Hid (t ++ T = P ++ ⟨(joinI (l.take (k + 1))).toArray⟩) := Lib.hid (by have e := HM.out; rw [if_pos h0] at e; exact e)
        clear HM h0
        go_wp2_with (first | (go_at_call 33; refine (HT.out _).mono ?_; rintro e w9 ⟨rfl, hb9⟩))
        go_roundw
        case rel => exact ⟨k + 1, _, by omega, by go_num, rfl, by rw [ByteArray.size_append]; omega, hbr.trans (hb9.mono hbr.size), HM2⟩
        case measure => simp [intOf]; omega
      · have i2 : (0 : Int) < (k : Int) := by omega
        have HM2 : Hid (t ++ ⟨#[44, 32]⟩ ++ T = P ++ ⟨(joinI (l.take (k + 1))).toArray⟩) := Lib.hid (by have e := HM.out; rw [if_neg h0] at e; exact e)
        have hsz : (t ++ (⟨#[44, 32]⟩ : ByteArray)).size = t.size + 2 := by rw [ByteArray.size_append]; rfl
        clear HM h0
        go_wp2_with (first | (go_at_call 33; refine (HT.out _).mono ?_; rintro e w9 ⟨rfl, hb9⟩))
        go_roundw
        case rel => exact ⟨k + 1, _, by omega, by go_num, rfl, by rw [ByteArray.size_append, hsz]; omega, hbr.trans (hb9.mono hbr.size), HM2⟩
        case measure => simp [intOf]; omega
    · have e1 : l.take k = l := List.take_of_length_le (by have := hnl.out; omega)
      rw [e1] at hp
      have HF : Hid (t ++ ⟨#[125]⟩ = R) := Lib.hid (by rw [HR.out, hp.out])
      clear hx HI hp HR HH hhs
      go_wp2_with fail
      go_ret
      exact ⟨ret_str HF.out, hbr⟩
end Go.Proofs.YtmfjpdlegaimlaaGreatDoor
