/- What the document fixes of names. -/
import Derived.Test.YtijnekbhpdcemaaNames12
import Derived.Outline
namespace Go.Proofs.Ytijnekbhpdcemaa
open Go.RowKit Go.Maps Go.Sort
set_option linter.unusedVariables false

def nB : ByteArray := ⟨#[98]⟩
def nA : ByteArray := ⟨#[97]⟩
def nC : ByteArray := ⟨#[99]⟩

theorem wakes_order {d : Array (Fin 2)} (hd : d.size = 2) (hp : PermIn 0 2 (Array.ofFn (fun i : Fin 2 => i)) d) (hs : SortedIn (ltOf (cmpN [nB, nA] 1)) 0 2 d) : NumsOf 1 d = [1, 0] := by
  have h1 := sorted_less [nB, nA] (m := 1) rfl (by decide) hd hp hs (i := 0) (by omega)
  have h2 := nums_inj (m := 1) hd hp (show 0 < 1 by omega) (by omega)
  have e : NumsOf 1 d = [(d[0]!.val : Int), (d[1]!.val : Int)] := by
    unfold NumsOf
    rw [getElem!_pos d 0 (by omega), getElem!_pos d 1 (by omega)]
    obtain ⟨l⟩ := d
    match l, hd with
    | [x, y], _ => rfl
  rw [e]
  generalize d[0]! = x at h1 h2 ⊢
  generalize d[1]! = y at h1 h2 ⊢
  match x, y with
  | 0, 0 => exact absurd rfl h2
  | 0, 1 => exact absurd h1 (by decide +kernel)
  | 1, 0 => rfl
  | 1, 1 => exact absurd rfl h2

theorem names_below {w w' : World} {base b : Nat} {L : List ByteArray} (h : NamesV w base b L) (hb : Below w.heap.size w w') : NamesV w' base b L := by
  obtain ⟨h1, h2, sv, mv, h3, h4, h5⟩ := h
  refine ⟨h1, h2, sv, mv, block_below h3 hb (lt_of_block h3), (by
    obtain ⟨q1, q2⟩ := h4
    refine ⟨q1, ?_⟩
    rcases q2 with q2 | ⟨g, cap, cur, hv, hg, hh, r⟩
    · exact .inl q2
    · exact .inr ⟨g, cap, cur, hv, hg, block_below hh hb (lt_of_block hh), r⟩), ?_⟩
  rcases h5 with h5 | ⟨mb, D, h6, h7, h8, h9⟩
  · exact .inl h5
  · refine .inr ⟨mb, D, h6, h7, ?_, h9⟩
    obtain ⟨es, cl, hb2, hr⟩ := h8
    exact ⟨es, cl, block_below hb2 hb (lt_of_block hb2), hr⟩

set_option maxRecDepth 100000 in
theorem namesWakes_any (w : World) (hS : ∀ L : List ByteArray, SortsN L 1) : Calls Try.prog 5 #[] w fun e w' => e = .returned (.bool true) ∧ Below w.heap.size w w' := by
  have HS := Lib.hid hS
  clear hS
  go_enter Try.func5, Try.ntmps5
  go_wp2_with fail
  refine (names_new _).mono ?_
  rintro e w1 ⟨rfl, rfl⟩
  have hn := Lib.hid (names_made w w.heap.size)
  have hbw : Below w.heap.size w (w.alloc (.cells #[.slice none 0 0, .map none] 40)) := (Below.refl _ _).alloc (Nat.le_refl _) _
  generalize w.alloc (.cells #[.slice none 0 0, .map none] 40) = w1 at hn hbw ⊢
  go_wp2_with fail
  refine (names_put _ [] nB w.heap.size _ (by decide) (by decide) hbw.size hn.out).mono ?_
  rintro e w2 ⟨rfl, hn2, hb2⟩
  rw [show putS [] nB = [nB] by decide +kernel] at hn2
  rw [show place [] nB = 0 by decide +kernel]
  replace hbw := hbw.trans (hb2.below (Nat.le_refl _))
  have HN := Lib.hid hn2
  clear hb2 hn2 hn
  go_wp2_with fail
  refine (names_put _ [nB] nA w.heap.size _ (by decide) (by decide) hbw.size HN.out).mono ?_
  rintro e w3 ⟨rfl, hn2, hb2⟩
  rw [show putS [nB] nA = [nB, nA] by decide +kernel] at hn2
  rw [show place [nB] nA = 1 by decide +kernel]
  replace hbw := hbw.trans (hb2.below (Nat.le_refl _))
  clear HN
  have HN := Lib.hid hn2
  clear hb2 hn2
  go_wp2_with fail
  refine (names_put _ [nB, nA] nB w.heap.size _ (by decide) (by decide) hbw.size HN.out).mono ?_
  rintro e w4 ⟨rfl, hn2, hb2⟩
  rw [show putS [nB, nA] nB = [nB, nA] by decide +kernel] at hn2
  rw [show place [nB, nA] nB = 0 by decide +kernel]
  replace hbw := hbw.trans (hb2.below (Nat.le_refl _))
  clear HN
  have HN := Lib.hid hn2
  clear hb2 hn2
  go_wp2_with fail
  refine (names_at _ [nB, nA] 1 w.heap.size _ HN.out).mono ?_
  rintro e w5 ⟨rfl, rfl⟩
  rw [show atS [nB, nA] 1 = nA by decide, show atB [nB, nA] 1 = true by decide]
  go_wp2_with fail
  refine (names_at _ [nB, nA] 2 w.heap.size _ HN.out).mono ?_
  rintro e w5 ⟨rfl, rfl⟩
  rw [show atS [nB, nA] 2 = ByteArray.empty by decide, show atB [nB, nA] 2 = false by decide]
  have e1 : nA.toList = [97] := by rw [ByteArray.toList_eq]; rfl
  go_wp2_with fail
  refine (names_find _ [nB, nA] nC w.heap.size _ (by decide) HN.out).mono ?_
  rintro e w5 ⟨rfl, rfl⟩
  rw [show idx [nB, nA] nC = -1 by decide +kernel]
  go_wp2_with fail
  refine (names_len _ [nB, nA] w.heap.size _ HN.out).mono ?_
  rintro e w5 ⟨rfl, rfl⟩
  go_wp2_with fail
  refine (sorted_walk _ 1 [nB, nA] w.heap.size _ rfl HN.out (HS.out _)).mono ?_
  rintro e w6 ⟨v, d, rfl, hd, hp, hs, hv, hb3⟩
  rw [wakes_order hd hp hs] at hv
  replace hbw := hbw.trans (hb3.mono hbw.size)
  have HV := Lib.hid hv
  clear hb3 hd hp hs hv
  go_wp2_with fail
  refine (eqInts_any _ _ [1, 0] [1, 0] _ (HV.out.below ((Below.refl _ _).alloc (Nat.le_refl _) _)) (IntsV.mk (n := 2) rfl (by omega) (by omega) (fun i hi => ⟨w6.heap.size, 0, rfl, ?_⟩))).mono ?_
  · match i, hi with
    | 0, _ => simp
    | 1, _ => simp
  rintro e w7 ⟨rfl, hb3⟩
  rw [show (([1, 0] : List Int) == [1, 0]) = true by decide]
  replace hbw := hbw.trans (((Below.refl _ _).alloc (Nat.le_refl _) _).trans (hb3.mono (by simp)) |>.mono hbw.size)
  clear hb3
  go_wp2_with fail
  go_ret
  exact ⟨rfl, hbw⟩

end Go.Proofs.Ytijnekbhpdcemaa
