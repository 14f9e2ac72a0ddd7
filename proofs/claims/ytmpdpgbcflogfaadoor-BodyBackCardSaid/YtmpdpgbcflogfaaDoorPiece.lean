/- Pieces of an action's text. -/
import Derived.Test.YtmpdpgbcflogfaaDoorTag
namespace Go.Proofs.YtmpdpgbcflogfaaDoor
open Go.RowKit
set_option linter.unusedVariables false

/-- more digits than may be, somewhere behind a dollar that is not passed over -/
def nextF (n : Nat) (g : Nat → Int) (i : Nat) : Nat := max (overF n g i).toNat (i + 1)
def tooF (n : Nat) (g : Nat → Int) (i : Nat) : Bool :=
  if i < n then
    if g i = 36 ∧ 3 < digF n g (tagF n g (i + 1)) - tagF n g (i + 1) then true else tooF n g (nextF n g i)
  else false
  termination_by n - i
  decreasing_by unfold nextF; omega

theorem nextF_bd (n : Nat) (g : Nat → Int) (i : Nat) (hi : i < n) : i < nextF n g i ∧ nextF n g i ≤ n := by
  have := overF_bd n g i hi
  unfold nextF; omega

set_option maxRecDepth 100000 in
theorem tooLong_any (s : ByteArray) (w : World) (hm : MaxAt w) (hs : s.size ≤ 1000000) :
    Calls Tryd.prog 37 #[.string s] w fun e w' => e = .returned (.bool (tooF s.size (gAt s) 0)) ∧ w = w' := by
  have hg := fun j h => gAt_get s j h
  have HS := Lib.hid (fun k hk => skip_any s k w hm hk hs)
  have HT := Lib.hid (fun k hk => tag_any s k w hk hs)
  have HD := Lib.hid (fun k hk => digits_any s k w hk hs)
  generalize gAt s = g at *
  have HR : Hid (∃ R, R = tooF s.size g 0) := ⟨_, rfl⟩
  obtain ⟨R, hR⟩ := HR
  rw [← hR]
  have HI := Lib.hid hR
  clear hR hm
  go_enter Tryd.func37, Tryd.ntmps37
  go_wp2_with fail
  go_loop [3] (fun x => ∃ k : Nat, k ≤ s.size ∧ x = .int .i64 k ∧ Hid (R = tooF s.size g k)) (fun x => s.size + 1 - (intOf x).toNat)
  case atStart => exact ⟨0, by omega, rfl, HI⟩
  case round =>
    obtain ⟨k, hk, rfl, HK⟩ := hrel
    by_cases hlt : k < s.size
    · have hnb := nextF_bd s.size g k hlt
      have hob := overF_bd s.size g k hlt
      have hnx : (nextF s.size g k : Int) = max (overF s.size g k) ((k : Int) + 1) := by unfold nextF; omega
      have hs0 := HS.out k hlt
      have HN : Hid (nextF s.size g k = nextF s.size g k) := rfl
      have HK2 := HK.out
      rw [tooF, if_pos hlt] at HK2
      have HK3 := Lib.hid HK2
      clear HK HK2
      generalize nextF s.size g k = m at hnb hnx HK3
      generalize overF s.size g k = o at hob hnx hs0
      have HSk := Lib.hid hs0
      have HX := Lib.hid hnx
      clear hs0 hnx
      by_cases h36 : g k = 36
      · have d0 : (g k == 36) = true := by simpa using h36
        have htb := tagF_bd s.size g (k + 1) (by omega)
        have hdb := digF_bd s.size g (tagF s.size g (k + 1)) htb.2
        have ht0 := HT.out (k + 1) (by omega)
        have hd0 := HD.out (tagF s.size g (k + 1)) htb.2
        push_cast at ht0
        have HK4 : Hid (R = if 3 < digF s.size g (tagF s.size g (k + 1)) - tagF s.size g (k + 1) then true else tooF s.size g m) := Lib.hid (by have e := HK3.out; by_cases h : 3 < digF s.size g (tagF s.size g (k + 1)) - tagF s.size g (k + 1) <;> simp [h, h36] at e ⊢ <;> exact e)
        clear h36 HK3
        generalize digF s.size g (tagF s.size g (k + 1)) = d at *
        generalize tagF s.size g (k + 1) = t at *
        have HTk := Lib.hid ht0
        have HDk := Lib.hid hd0
        clear ht0 hd0
        by_cases h3 : 3 < d - t
        · have d1 : (3 : Int) < (d : Int) - (t : Int) := by omega
          have HK5 : Hid (R = true) := Lib.hid (by have e := HK4.out; rwa [if_pos h3] at e)
          go_wp2_with (first | (go_at_call 54; refine HTk.out.mono ?_; rintro e w' ⟨rfl, rfl⟩) | (go_at_call 55; refine HDk.out.mono ?_; rintro e w' ⟨rfl, rfl⟩))
          go_ret
          exact ⟨ret_bool HK5.out.symm, rfl⟩
        · have d1 : ¬ (3 : Int) < (d : Int) - (t : Int) := by omega
          have HK5 : Hid (R = tooF s.size g m) := Lib.hid (by have e := HK4.out; rwa [if_neg h3] at e)
          go_wp2_with (first | (go_at_call 54; refine HTk.out.mono ?_; rintro e w' ⟨rfl, rfl⟩) | (go_at_call 55; refine HDk.out.mono ?_; rintro e w' ⟨rfl, rfl⟩) | (go_at_call 30; refine HSk.out.mono ?_; rintro e w' ⟨rfl, rfl⟩))
          go_round
          case rel => exact ⟨m, by omega, by rw [HX.out], HK5⟩
          case measure => simp [intOf]; omega
      · have d0 : (g k == 36) = false := by simpa using h36
        have HK5 : Hid (R = tooF s.size g m) := Lib.hid (by have e := HK3.out; rwa [if_neg (fun h => h36 h.1)] at e)
        clear HK3 h36
        go_wp2_with (first | (go_at_call 30; refine HSk.out.mono ?_; rintro e w' ⟨rfl, rfl⟩))
        go_round
        case rel => exact ⟨m, by omega, by rw [HX.out], HK5⟩
        case measure => simp [intOf]; omega
    · go_wp2_with fail
      go_ret
      exact ⟨ret_bool (by have e := HK.out; rw [tooF, if_neg hlt] at e; exact e.symm), rfl⟩

structure Pc where
  kind : Int
  text : ByteArray
  num : Int
  tag : ByteArray

def Pc.agg (p : Pc) : Value := .agg #[.int .i64 p.kind, .string p.text, .int .i64 p.num, .string p.tag]
def Pc.cells (p : Pc) : List Value := [.int .i64 p.kind, .string p.text, .int .i64 p.num, .string p.tag]

def pieceF (s : ByteArray) (n : Nat) (g : Nat → Int) (i : Nat) : Pc × Nat :=
  let b := tagF n g (i + 1)
  let tag := if i + 1 < b then s.extract (i + 2) (b - 1) else ByteArray.empty
  if b < n ∧ g b = 36 then (⟨2, ByteArray.empty, 0, tag⟩, b + 1)
  else if digF n g b = b then (⟨0, ByteArray.empty, 0, ByteArray.empty⟩, i)
  else (⟨3, ByteArray.empty, numW g b (digF n g b - b), tag⟩, digF n g b)

theorem numW_sub (s : ByteArray) (a e : Nat) (he : e ≤ s.size) : ∀ k, k ≤ e - a → numW (gAt (s.extract a e)) 0 k = numW (gAt s) a k := by
  intro k
  induction k with
  | zero => intro _; rfl
  | succ k ih =>
    intro hk
    rw [numW, numW, ih (by omega), Nat.zero_add, gAt_sub s a e k he (by omega)]

theorem digF_all (n : Nat) (g : Nat → Int) (i : Nat) : ∀ j, i ≤ j → j < digF n g i → digB (g j) = true := by
  fun_induction digF n g i with
  | case1 i h ih =>
    intro j h1 h2
    by_cases e : j = i
    · subst e; exact h.2
    · exact ih j (by omega) h2
  | case2 i h => intro j h1 h2; omega

theorem number_at (s : ByteArray) (t : Nat) (w : World) (ht : t ≤ s.size) (hs : s.size ≤ 1000000) :
    Calls Tryd.prog 56 #[.string (s.extract t (digF s.size (gAt s) t))] w fun e w' => e = .returned (.int .i64 (numW (gAt s) t (digF s.size (gAt s) t - t))) ∧ w = w' := by
  have hb := digF_bd s.size (gAt s) t ht
  have hz : (s.extract t (digF s.size (gAt s) t)).size = digF s.size (gAt s) t - t := by rw [ByteArray.size_extract]; omega
  have := number_any (s.extract t (digF s.size (gAt s) t)) w (by omega) (fun j hj => by
    rw [hz] at hj
    rw [gAt_sub s t _ j hb.2 (by omega)]
    have := digF_all s.size (gAt s) t (t + j) (by omega) (by omega)
    unfold digB at this
    simpa using this)
  rwa [hz, numW_sub s t _ hb.2 _ (Nat.le_refl _)] at this

theorem tagF_two (n : Nat) (g : Nat → Int) (i : Nat) : tagF n g i = i ∨ i + 3 ≤ tagF n g i := by
  unfold tagF; split
  · right; omega
  · left; rfl

def tagT (s : ByteArray) (i b : Nat) : ByteArray := if i + 1 < b then s.extract (i + 2) (b - 1) else ByteArray.empty
theorem pieceF_eq (s : ByteArray) (n : Nat) (g : Nat → Int) (i : Nat) : pieceF s n g i =
    if tagF n g (i + 1) < n ∧ g (tagF n g (i + 1)) = 36 then (⟨2, ByteArray.empty, 0, tagT s i (tagF n g (i + 1))⟩, tagF n g (i + 1) + 1)
    else if digF n g (tagF n g (i + 1)) = tagF n g (i + 1) then (⟨0, ByteArray.empty, 0, ByteArray.empty⟩, i)
    else (⟨3, ByteArray.empty, numW g (tagF n g (i + 1)) (digF n g (tagF n g (i + 1)) - tagF n g (i + 1)), tagT s i (tagF n g (i + 1))⟩, digF n g (tagF n g (i + 1))) := rfl

set_option maxRecDepth 100000 in
theorem piece_any (s : ByteArray) (i : Nat) (w : World) (hi : i < s.size) (hs : s.size ≤ 1000000) :
    Calls Tryd.prog 38 #[.string s, .int .i64 i] w fun e w' => e = .returned (.tuple #[(pieceF s s.size (gAt s) i).1.agg, .int .i64 ((pieceF s s.size (gAt s) i).2 : Nat)]) ∧ Below w.heap.size w w' := by
  have hg := fun j h => gAt_get s j h
  have htb := tagF_bd s.size (gAt s) (i + 1) (by omega)
  have ht2 := tagF_two s.size (gAt s) (i + 1)
  have ht0 := fun W => tag_any s (i + 1) W (by omega) hs
  have hd0 := fun W => digits_any s (tagF s.size (gAt s) (i + 1)) W htb.2 hs
  have hn0 := fun W => number_at s (tagF s.size (gAt s) (i + 1)) W htb.2 hs
  have hdb := digF_bd s.size (gAt s) (tagF s.size (gAt s) (i + 1)) htb.2
  push_cast at ht0
  have HR := Lib.hid (pieceF_eq s s.size (gAt s) i)
  generalize pieceF s s.size (gAt s) i = R at HR ⊢
  generalize numW (gAt s) (tagF s.size (gAt s) (i + 1)) (digF s.size (gAt s) (tagF s.size (gAt s) (i + 1)) - tagF s.size (gAt s) (i + 1)) = v at *
  generalize digF s.size (gAt s) (tagF s.size (gAt s) (i + 1)) = d at *
  generalize tagF s.size (gAt s) (i + 1) = t at *
  generalize gAt s = g at *
  have HT := Lib.hid ht0
  have HD := Lib.hid hd0
  have HN := Lib.hid hn0
  clear ht0 hd0 hn0
  by_cases hA : i + 1 < t
  · have hTT : tagT s i t = s.extract (i + 2) (t - 1) := if_pos hA
    have h2 : (i : Int) + 2 ≤ (t : Int) - 1 := by omega
    have h3 : (t : Int) - 1 ≤ (s.size : Int) := by omega
    have h1 : (i : Int) + 1 < (t : Int) := by omega
    have e1 : ((t : Int) - 1).toNat = t - 1 := by omega
    have e2 : ((i : Int) + 2).toNat = i + 2 := by omega
    rw [hTT] at HR
    clear hTT ht2
    go_enter Tryd.func38, Tryd.ntmps38
    go_wp2_with (first | (go_at_call 54; refine (HT.out _).mono ?_; rintro e w' ⟨rfl, rfl⟩) | (go_at_call 55; refine (HD.out _).mono ?_; rintro e w' ⟨rfl, rfl⟩) | (go_at_call 56; refine (HN.out _).mono ?_; rintro e w' ⟨rfl, rfl⟩))
    all_goals first
      | (have hR : R = (⟨2, ByteArray.empty, 0, (s.extract (i + 2) (t - 1))⟩, t + 1) := by have e := HR.out; grind
         exact bodyPost_ret (v := .tuple #[.agg #[.int .i64 2, .string ByteArray.empty, .int .i64 0, .string (s.extract (i + 2) (t - 1))], .int .i64 ((t : Int) + 1)]) (by simp [results, Tryd.results38, go_sem]; rfl) rfl ⟨by rw [hR]; rfl, (Below.refl _ _).alloc (Nat.le_refl _) _⟩)
      | (have hR : R = (⟨0, ByteArray.empty, 0, ByteArray.empty⟩, i) := by have e := HR.out; grind
         exact bodyPost_ret (v := .tuple #[.agg #[.int .i64 0, .string ByteArray.empty, .int .i64 0, .string ByteArray.empty], .int .i64 (i : Int)]) (by simp [results, Tryd.results38, go_sem]; rfl) rfl ⟨by rw [hR]; rfl, (Below.refl _ _).alloc (Nat.le_refl _) _⟩)
      | (have hR : R = (⟨3, ByteArray.empty, v, (s.extract (i + 2) (t - 1))⟩, d) := by have e := HR.out; grind
         exact bodyPost_ret (v := .tuple #[.agg #[.int .i64 3, .string ByteArray.empty, .int .i64 v, .string (s.extract (i + 2) (t - 1))], .int .i64 (d : Int)]) (by simp [results, Tryd.results38, go_sem]; rfl) rfl ⟨by rw [hR]; rfl, (Below.refl _ _).alloc (Nat.le_refl _) _⟩)
  · obtain rfl : t = i + 1 := by omega
    have hTT : tagT s i (i + 1) = ByteArray.empty := if_neg hA
    rw [hTT] at HR
    clear hTT ht2
    go_enter Tryd.func38, Tryd.ntmps38
    go_wp2_with (first | (go_at_call 54; refine (HT.out _).mono ?_; rintro e w' ⟨rfl, rfl⟩) | (go_at_call 55; refine (HD.out _).mono ?_; rintro e w' ⟨rfl, rfl⟩) | (go_at_call 56; refine (HN.out _).mono ?_; rintro e w' ⟨rfl, rfl⟩))
    all_goals first
      | (have hR : R = (⟨2, ByteArray.empty, 0, ByteArray.empty⟩, i + 1 + 1) := by have e := HR.out; grind
         exact bodyPost_ret (v := .tuple #[.agg #[.int .i64 2, .string ByteArray.empty, .int .i64 0, .string ByteArray.empty], .int .i64 ((i : Int) + 1 + 1)]) (by simp [results, Tryd.results38, go_sem]; rfl) rfl ⟨by rw [hR]; rfl, (Below.refl _ _).alloc (Nat.le_refl _) _⟩)
      | (have hR : R = (⟨0, ByteArray.empty, 0, ByteArray.empty⟩, i) := by have e := HR.out; grind
         exact bodyPost_ret (v := .tuple #[.agg #[.int .i64 0, .string ByteArray.empty, .int .i64 0, .string ByteArray.empty], .int .i64 (i : Int)]) (by simp [results, Tryd.results38, go_sem]; rfl) rfl ⟨by rw [hR]; rfl, (Below.refl _ _).alloc (Nat.le_refl _) _⟩)
      | (have hR : R = (⟨3, ByteArray.empty, v, ByteArray.empty⟩, d) := by have e := HR.out; grind
         exact bodyPost_ret (v := .tuple #[.agg #[.int .i64 3, .string ByteArray.empty, .int .i64 v, .string ByteArray.empty], .int .i64 (d : Int)]) (by simp [results, Tryd.results38, go_sem]; rfl) rfl ⟨by rw [hR]; rfl, (Below.refl _ _).alloc (Nat.le_refl _) _⟩)

end Go.Proofs.YtmpdpgbcflogfaaDoor
