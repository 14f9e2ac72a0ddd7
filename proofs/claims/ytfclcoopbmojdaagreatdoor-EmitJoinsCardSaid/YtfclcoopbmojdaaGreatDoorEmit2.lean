/- Any name and numbers as a line. -/
import Derived.Test.YtfclcoopbmojdaaGreatDoorEmit1
import Derived.Test.YtfclcoopbmojdaaGreatDoorEmitW
namespace Go.Proofs.YtfclcoopbmojdaaGreatDoor
open Go.RowKit
set_option linter.unusedVariables false
set_option linter.unusedSimpArgs false

/-- a list of numbers, and a list of lists, cut -/
def cutI (l : List Int) (m : Nat) : List Int := if m < l.length then l.take m else l
def cutV (v : Value) (l : List Int) (m : Nat) : Value := if m < l.length then (match v with | .slice a n c => .slice a m c | x => x) else v
theorem cutV_ints {v : Value} {l : List Int} {m : Nat} {w : World} (h : IntsV w v l) : IntsV w (cutV v l m) (cutI l m) ∧ (cutV v l m).oneCell' = true := by
  obtain ⟨a, n, c, rfl, hn, hnc, hc, hx⟩ := h.open
  have hn' := hn.out
  unfold cutV cutI
  by_cases hlt : m < l.length
  · rw [if_pos hlt, if_pos hlt]; exact ⟨IntsV.take h (by omega), rfl⟩
  · rw [if_neg hlt, if_neg hlt]; exact ⟨h, rfl⟩
theorem cutI_any (v : Value) (l : List Int) (m : Nat) (w : World) (h : IntsV w v l) (hm : m ≤ 1000000) :
    Calls Tryz.prog 7 #[v, .int .i64 m] w fun e w' => e = .returned (cutV v l m) ∧ w = w' := by
  obtain ⟨a, n, c, rfl, hn, hnc, hc, hx⟩ := h.open
  clear h
  by_cases hlt : m < n
  · have hv : cutV (.slice a n c) l m = .slice a m c := by unfold cutV; rw [if_pos (by have := hn.out; omega)]
    rw [hv]
    clear hv
    go_enter Tryz.func7, Tryz.ntmps7
    go_wp2_with (fail)
    go_ret
    exact ⟨rfl, rfl⟩
  · have hv : cutV (.slice a n c) l m = .slice a n c := by unfold cutV; rw [if_neg (by have := hn.out; omega)]
    rw [hv]
    clear hv
    go_enter Tryz.func7, Tryz.ntmps7
    go_wp2_with (fail)
    go_ret
    exact ⟨rfl, rfl⟩
theorem cutI_len (l : List Int) (m : Nat) : (cutI l m).length ≤ m := by
  unfold cutI
  split
  · rw [List.length_take]; omega
  · omega
theorem cutI_in {l : List Int} {m : Nat} (h : InI l) : InI (cutI l m) := by
  unfold cutI
  split
  · exact fun x hx => h x (List.mem_of_mem_take hx)
  · exact h

set_option maxRecDepth 100000 in
set_option maxHeartbeats 4000000 in
theorem emitLists_any (name : ByteArray) (v : Value) (l : List Int) {w : World} (hs : name.size ≤ maxLen) (hvi : IntsV w v l ∧ InI l) (hE : Env w) :
    Calls Tryz.prog 3 #[.string name, v] w fun e w' => e = .returned (.bool true) ∧ Below w.heap.size w w' := by
  obtain ⟨hv, hi⟩ := hvi
  have HW := Lib.hid (wakes28_any w hE)
  have HT := Lib.hid (fun W => text_any name 40 W hs (by omega))
  have HC := Lib.hid (fun (W : World) (h : IntsV W v l) => cutI_any v l 100 W h (by omega))
  have HA := Lib.hid (fun (W : World) (hE : Env W) (h : IntsV W (cutV v l 100) (cutI l 100)) => emitList_any (cutT name 40) (cutV v l 100) (cutI l 100) W h (cutI_in hi) (by have := cutI_len l 100; omega) (by have := cutT_size name 40; omega) hE)
  have HB := Lib.hid (fun (W : World) (h : IntsV W (cutV v l 100) (cutI l 100)) => refList_any (cutT name 40) (cutV v l 100) (cutI l 100) W h (cutI_in hi) (by have := cutI_len l 100; omega) (by have := cutT_size name 40; omega))
  have HV := Lib.hid (fun (W : World) (h : IntsV W v l) => (cutV_ints (m := 100) h).1)
  have HE := Lib.hid hE
  have HI := Lib.hid hv
  have HR : ((listS (cutT name 40) (cutI l 100)).toList == (listS (cutT name 40) (cutI l 100)).toList) = true := by simp
  generalize listS (cutT name 40) (cutI l 100) = R at HA HB HR
  generalize cutV v l 100 = cv at HC HA HB HV
  generalize cutI l 100 = cl at HA HB HV
  generalize cutT name 40 = cn at HT HA HB
  clear hv hE hs hi
  go_enter Tryz.func3, Tryz.ntmps3
  go_wp2_with (first
    | (go_at_call 5; refine HW.out.mono ?_; rintro e w1 ⟨rfl, hb1⟩; have hE1 := Lib.hid (HE.out.below hb1); have hI1 := Lib.hid (HI.out.below hb1); have hV1 := Lib.hid (HV.out _ hI1.out))
    | (go_at_call 6; refine (HT.out _).mono ?_; rintro e w8 ⟨rfl, rfl⟩)
    | (go_at_call 7; refine (HC.out _ hI1.out).mono ?_; rintro e w8 ⟨rfl, rfl⟩)
    | (go_at_call 8; refine (HA.out _ hE1.out hV1.out).mono ?_; rintro e w2 ⟨rfl, hb2⟩; have hV2 := Lib.hid (hV1.out.below hb2))
    | (go_at_call 9; refine (HB.out _ hV2.out).mono ?_; rintro e w3 ⟨rfl, hb3⟩))
  go_ret
  have hb12 := hb1.trans (hb2.mono hb1.size)
  exact ⟨by first | rfl | exact ret_bool HR, hb12.trans (hb3.mono hb12.size)⟩
end Go.Proofs.YtfclcoopbmojdaaGreatDoor
