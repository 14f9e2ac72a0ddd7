/- A line that was written is read as it was: the law DecodeBack walked. -/
import Derived.Test.YtmfjpdlegaimlaaGreatDoorDec7
import Derived.Test.YtmfjpdlegaimlaaGreatDoorDecW
import Derived.Test.YtmfjpdlegaimlaaGreatDoorEqInts
import Derived.Test.YtmfjpdlegaimlaaGreatDoorTextC
namespace Go.Proofs.YtmfjpdlegaimlaaGreatDoor
open Go.RowKit
set_option linter.unusedVariables false
set_option linter.unusedSimpArgs false

/-- a list of numbers, and a list of lists, cut -/
def cutI (l : List Int) (m : Nat) : List Int := if m < l.length then l.take m else l
def cutV (v : Value) (l : List Int) (m : Nat) : Value := if m < l.length then (match v with | .slice a n c => .slice a m c | x => x) else v
theorem cutV_ints {v : Value} {l : List Int} {m : Nat} {w : World} (h : IntsV w v l) : IntsV w (cutV v l m) (cutI l m) ∧ (cutV v l m).oneCell' = true := by
  obtain ⟨a, n, c, rfl, hn, hnc, hc, hx⟩ := h.open
  have hn' := hn.out
  unfold cutV cutI
  by_cases hlt : m < l.length
  · rw [if_pos hlt, if_pos hlt]; exact ⟨IntsV.take h (by omega), rfl⟩
  · rw [if_neg hlt, if_neg hlt]; exact ⟨h, rfl⟩
theorem cutI_any (v : Value) (l : List Int) (m : Nat) (w : World) (h : IntsV w v l) (hm : m ≤ 1000000) :
    Calls Tryz.prog 9 #[v, .int .i64 m] w fun e w' => e = .returned (cutV v l m) ∧ w = w' := by
  obtain ⟨a, n, c, rfl, hn, hnc, hc, hx⟩ := h.open
  clear h
  by_cases hlt : m < n
  · have hv : cutV (.slice a n c) l m = .slice a m c := by unfold cutV; rw [if_pos (by have := hn.out; omega)]
    rw [hv]
    clear hv
    go_enter Tryz.func9, Tryz.ntmps9
    go_wp2_with (fail)
    go_ret
    exact ⟨rfl, rfl⟩
  · have hv : cutV (.slice a n c) l m = .slice a n c := by unfold cutV; rw [if_neg (by have := hn.out; omega)]
    rw [hv]
    clear hv
    go_enter Tryz.func9, Tryz.ntmps9
    go_wp2_with (fail)
    go_ret
    exact ⟨rfl, rfl⟩
theorem cutI_len (l : List Int) (m : Nat) : (cutI l m).length ≤ m := by
  unfold cutI
  split
  · rw [List.length_take]; omega
  · omega
theorem cutI_in {l : List Int} {m : Nat} (h : InI l) : InI (cutI l m) := by
  unfold cutI
  split
  · exact fun x hx => h x (List.mem_of_mem_take hx)
  · exact h


/-- letters alone, up to a place -/
theorem let_step (P : List UInt8) (k : Nat) (h : k < P.length) : (P.take (k + 1)).all ltU = ((P.take k).all ltU && ltU P[k]) := by
  rw [List.take_add_one, List.getElem?_eq_getElem h, Option.toList_some, List.all_append]; simp
theorem small_step (l : List Int) (k : Nat) (h : k < l.length) : (l.take (k + 1)).all smallI = ((l.take k).all smallI && smallI (l.getD k 0)) := by
  rw [List.take_add_one, List.getD_eq_getElem?_getD, List.getElem?_eq_getElem h, Option.toList_some, List.all_append]; simp
theorem list_decl (name : ByteArray) (l : List Int) : declL (listS name l) = if name.data.toList.all ltU && !name.data.toList.isEmpty && l.all smallI then some (name, l) else none := by
  apply decl_list
  unfold listS headS
  rw [ByteArray.data_append, ByteArray.data_append, ByteArray.data_append, ByteArray.data_append, Array.toList_append, Array.toList_append, Array.toList_append, Array.toList_append]
  simp [varT, midT]
theorem listS_size (name : ByteArray) (l : List Int) : (listS name l).size = name.size + 14 + (joinI l).length := by
  unfold listS
  rw [ByteArray.size_append, ByteArray.size_append, headS_size]
  show name.size + 13 + (joinI l).toArray.size + 1 = _
  rw [List.size_toArray]; omega
/-- what the law reckons: may the line be read? -/
def mayN (name : ByteArray) (k : Nat) : Bool := (name.data.toList.take k).all ltU && !name.data.toList.isEmpty
def mayL (name : ByteArray) (l : List Int) (k : Nat) : Bool := mayN name name.size && (l.take k).all smallI
theorem may_step (nm : ByteArray) (k : Nat) (hk : k < nm.size) : mayN nm (k + 1) = (mayN nm k && letB (gAt nm k)) := by
  have hk' : k < nm.data.toList.length := hk
  unfold mayN
  rw [let_step _ k hk', gAt_l nm k hk', letB_u]
  cases (List.take k nm.data.toList).all ltU <;> cases nm.data.toList.isEmpty <;> simp

set_option maxRecDepth 100000 in
set_option maxHeartbeats 8000000 in
theorem decodeBack_any (name : ByteArray) (v : Value) (l : List Int) {w : World} (hs : name.size ≤ maxLen) (hvi : IntsV w v l ∧ InI l) (hE : Env w) :
    Calls Tryz.prog 4 #[.string name, v] w fun e w' => e = .returned (.bool true) ∧ Below w.heap.size w w' := by
  obtain ⟨hv, hi⟩ := hvi
  have HW := Lib.hid (wakes29_any w hE)
  have HT : Hid (∀ W, Calls Tryz.prog 7 #[.string name, .int .i64 12] W fun e w' => e = .returned (.string (cutT name 12)) ∧ W = w') := Lib.hid (fun W => text_any name 12 W hs (by omega))
  have HC : Hid (∀ (W : World), IntsV W v l → Calls Tryz.prog 9 #[v, .int .i64 40] W fun e w' => e = .returned (cutV v l 40) ∧ W = w') := Lib.hid (fun (W : World) (h : IntsV W v l) => cutI_any v l 40 W h (by omega))
  have HV := Lib.hid (fun (W : World) (h : IntsV W v l) => (cutV_ints (m := 40) h).1)
  have hL := cutI_len l 40
  have hI := cutI_in (m := 40) hi
  have hN := cutT_size name 12
  generalize cutT name 12 = nm at *
  generalize cutI l 40 = L at *
  generalize cutV v l 40 = cv at *
  have HE := Lib.hid hE
  have HIv := Lib.hid hv
  clear hE hv hi hs
  have HA := Lib.hid (fun (W : World) (hE : Env W) (h : IntsV W cv L) => emitList_any nm cv L W h hI (by omega) (by omega) hE)
  have hsz : (listS nm L).size ≤ 100000 := by rw [listS_size]; have := joinI_len L hI; omega
  have HB := Lib.hid (fun (W : World) (hM : MaxAt W) => declL_any (listS nm L) W hsz hM)
  rw [list_decl] at HB
  have hg := fun j h => gAt_get nm j h
  have hF : Hid (mayN nm 0 = !nm.data.toList.isEmpty) := Lib.hid (by unfold mayN; simp)
  have HS : Hid (∀ k, k < nm.size → mayN nm (k + 1) = (mayN nm k && letB (gAt nm k))) := Lib.hid (fun k hk => may_step nm k hk)
  have HS2 : Hid (∀ k, k < L.length → mayL nm L (k + 1) = (mayL nm L k && smallI (L.getD k 0))) := Lib.hid (fun k hk => by unfold mayL; rw [small_step L k hk, Bool.and_assoc])
  have HZ : Hid (mayL nm L 0 = mayN nm nm.size) := Lib.hid (by unfold mayL; simp)
  have hEnd : (nm.data.toList.all ltU && !nm.data.toList.isEmpty && L.all smallI) = mayL nm L L.length := by
    have h1 : nm.data.toList.take nm.size = nm.data.toList := List.take_of_length_le (Nat.le_refl _)
    unfold mayL mayN
    rw [h1, List.take_length]
  rw [hEnd] at HB
  have HIn := Lib.hid (fun k (h : k < L.length) => (show -9223372036854775808 ≤ L.getD k 0 ∧ L.getD k 0 ≤ 9223372036854775807 by
    rw [List.getD_eq_getElem?_getD, List.getElem?_eq_getElem h]; exact hI _ (List.getElem_mem h)))
  generalize listS nm L = X at *
  generalize mayN nm = MN at *
  generalize mayL nm L = ML at *
  generalize gAt nm = g at *
  clear hEnd hsz hI
  go_enter Tryz.func4, Tryz.ntmps4
  go_wp2_with (first
    | (go_at_call 5; refine HW.out.mono ?_; rintro e w1 ⟨rfl, hb1⟩; have hI1 := Lib.hid (HIv.out.below hb1); have hE1 := Lib.hid (HE.out.below hb1); have hV1 := HV.out _ hI1.out)
    | (go_at_call 7; refine (HT.out _).mono ?_; rintro e w8 ⟨rfl, rfl⟩)
    | (go_at_call 9; refine (HC.out _ hI1.out).mono ?_; rintro e w8 ⟨rfl, rfl⟩))
  go_loop [5, 6] (fun x y => ∃ (k : Nat), k ≤ nm.size ∧ x = .bool (MN k) ∧ y = .int .i64 k) (fun x y => nm.size - (intOf y).toNat)
  case atStart => exact ⟨0, Nat.zero_le _, by rw [hF.out]; simp [Lib.toList_data], rfl⟩
  case round =>
    obtain ⟨k, hk, rfl, rfl⟩ := hrel
    by_cases hlt : k < nm.size
    · have hst := HS.out k hlt
      clear HS HS2 HZ HIn HA HB HV HC HT HW hF
      generalize MN k = b at hst ⊢
      cases b
      · rw [Bool.false_and] at hst
        have HST := Lib.hid hst
        clear hst
        go_wp2_with fail
        all_goals
          go_round
          case rel => exact ⟨k + 1, by omega, by rw [HST.out], by go_num⟩
          case measure => simp [intOf]; omega
      · rw [Bool.true_and] at hst
        rcases (by omega : g k < 65 ∨ (65 ≤ g k ∧ g k ≤ 90) ∨ (90 < g k ∧ g k < 97) ∨ (97 ≤ g k ∧ g k ≤ 122) ∨ 122 < g k) with h1 | ⟨h1, h2⟩ | ⟨h1, h2⟩ | ⟨h1, h2⟩ | h1
        · have HST : Hid (MN (k + 1) = false) := Lib.hid (by rw [hst]; unfold letB; exact decide_eq_false (by omega))
          clear hst
          go_wp2_with fail
          all_goals
            go_round
            case rel => exact ⟨k + 1, by omega, by first | (rw [HST.out]; done) | (rw [HST.out]; simp; try omega), by go_num⟩
            case measure => simp [intOf]; omega
        · have HST : Hid (MN (k + 1) = true) := Lib.hid (by rw [hst]; unfold letB; exact decide_eq_true (by omega))
          clear hst
          go_wp2_with fail
          all_goals
            go_round
            case rel => exact ⟨k + 1, by omega, by first | (rw [HST.out]; done) | (rw [HST.out]; simp; try omega), by go_num⟩
            case measure => simp [intOf]; omega
        · have HST : Hid (MN (k + 1) = false) := Lib.hid (by rw [hst]; unfold letB; exact decide_eq_false (by omega))
          clear hst
          go_wp2_with fail
          all_goals
            go_round
            case rel => exact ⟨k + 1, by omega, by first | (rw [HST.out]; done) | (rw [HST.out]; simp; try omega), by go_num⟩
            case measure => simp [intOf]; omega
        · have HST : Hid (MN (k + 1) = true) := Lib.hid (by rw [hst]; unfold letB; exact decide_eq_true (by omega))
          clear hst
          go_wp2_with fail
          all_goals
            go_round
            case rel => exact ⟨k + 1, by omega, by first | (rw [HST.out]; done) | (rw [HST.out]; simp; try omega), by go_num⟩
            case measure => simp [intOf]; omega
        · have HST : Hid (MN (k + 1) = false) := Lib.hid (by rw [hst]; unfold letB; exact decide_eq_false (by omega))
          clear hst
          go_wp2_with fail
          all_goals
            go_round
            case rel => exact ⟨k + 1, by omega, by first | (rw [HST.out]; done) | (rw [HST.out]; simp; try omega), by go_num⟩
            case measure => simp [intOf]; omega
    · have hke : k = nm.size := by omega
      subst hke
      have HZ2 : Hid (MN nm.size = ML 0) := Lib.hid HZ.out.symm
      clear HZ HS hF hlt
      rw [HZ2.out]
      obtain ⟨a, n, c, rfl, hnl, hnc, hc, hx⟩ := hV1.open
      have HV1 := Lib.hid hV1
      clear hV1 HV HIv hg
      go_wp2_with fail
      go_loop [5, 7] (fun x y => ∃ (k : Nat), k ≤ n ∧ x = .bool (ML k) ∧ y = .int .i64 k) (fun x y => n - (intOf y).toNat)
      case atStart => exact ⟨0, Nat.zero_le _, rfl, rfl⟩
      case round =>
        obtain ⟨k, hk, rfl, rfl⟩ := hrel
        by_cases hlt : k < n
        · have hst := HS2.out k (by rw [← hnl.out]; exact hlt)
          have hin := HIn.out k (by rw [← hnl.out]; exact hlt)
          obtain ⟨b, off, ha, hcell⟩ := hx.out k hlt
          subst ha
          clear HS2 HIn HA HB HC HT HW hx
          generalize L.getD k 0 = x at *
          generalize ML k = bb at hst ⊢
          obtain ⟨hin1, hin2⟩ := hin
          cases bb
          · rw [Bool.false_and] at hst
            have HST := Lib.hid hst
            clear hst
            go_wp2_with fail
            all_goals
              go_round
              case rel => exact ⟨k + 1, by omega, by rw [HST.out], by go_num⟩
              case measure => simp [intOf]; omega
          · rw [Bool.true_and] at hst
            have HST := Lib.hid hst
            clear hst
            rcases (by omega : x < -999999999 ∨ (-999999999 ≤ x ∧ x ≤ 999999999) ∨ 999999999 < x) with h1 | ⟨h1, h2⟩ | h1
            all_goals
              go_wp2_with fail
              all_goals
                go_round
                case rel => exact ⟨k + 1, by omega, by rw [HST.out]; unfold smallI; simp; try omega, by go_num⟩
                case measure => simp [intOf]; omega
        · have hke : k = L.length := by rw [← hnl.out]; omega
          have hkn := hke
          subst hke
          clear HS2 HIn HC HT HW hx hL hN
          generalize ML L.length = b at HB ⊢
          cases b
          · have HB2 : Hid (∀ W, MaxAt W → Calls Tryz.prog 10 #[.string X] W fun e w' => ∃ v, e = .returned (.tuple #[.string ByteArray.empty, v, .bool false]) ∧ IntsV w' v [] ∧ Below W.heap.size W w') := Lib.hid (fun W h => HB.out W h)
            clear HB
            go_wp2_with (first
              | (go_at_call 11; refine (HA.out _ hE1.out HV1.out).mono ?_; rintro e w2 ⟨rfl, hb2⟩; have hE2 := Lib.hid (hE1.out.below hb2))
              | (go_at_call 10; refine (HB2.out _ hE2.out.max).mono ?_; rintro e w3 ⟨v3, rfl, hi3, hb3⟩; obtain ⟨a3, n3, c3, rfl, hn3, hnc3, hc3, _⟩ := hi3.open; have hn3' : n3 = 0 := hn3.out; subst hn3'; clear hn3 hi3))
            all_goals
              go_ret
              have hb12 := hb1.trans (hb2.mono hb1.size)
              exact ⟨by first | rfl | exact ret_bool (by simp), hb12.trans (hb3.mono hb12.size)⟩
          · have HB2 : Hid (∀ W, MaxAt W → Calls Tryz.prog 10 #[.string X] W fun e w' => ∃ v, e = .returned (.tuple #[.string nm, v, .bool true]) ∧ IntsV w' v L ∧ Below W.heap.size W w') := Lib.hid (fun W h => HB.out W h)
            clear HB
            go_wp2_with (first
              | (go_at_call 11; refine (HA.out _ hE1.out HV1.out).mono ?_; rintro e w2 ⟨rfl, hb2⟩; have hE2 := Lib.hid (hE1.out.below hb2))
              | (go_at_call 10; refine (HB2.out _ hE2.out.max).mono ?_; rintro e w3 ⟨v3, rfl, hi3, hb3⟩; have hI3 := Lib.hid hi3; have hJ3 := Lib.hid ((HV1.out.below hb2).below hb3); clear hi3)
              | (go_at_call 12; refine (eqInts_any _ _ _ _ _ hJ3.out hI3.out).mono ?_; rintro e w4 ⟨rfl, hb4⟩))
            all_goals
              go_ret
              have hb12 := hb1.trans (hb2.mono hb1.size)
              have hb13 := hb12.trans (hb3.mono hb12.size)
              exact ⟨by first | rfl | exact ret_bool (by simp), hb13.trans (hb4.mono hb13.size)⟩

end Go.Proofs.YtmfjpdlegaimlaaGreatDoor
