/- End: body's and the document's. -/
import Derived.Test.YtkgbifbbpmdpgaaNOfW
import Derived.Test.YtkgbifbbpmdpgaaNROver3
import Derived.Lib.AppendIntMem
import Derived.IntWalk
import Derived.BigQuiet
set_option linter.unusedVariables false
set_option linter.unusedSimpArgs false
namespace Go.Proofs.Ytkgbifbbpmdpgaa
section
open Go.RowKit
set_option maxRecDepth 100000 in
theorem rend_in (s : ByteArray) (g : Nat → Int) (i : Nat) (R : Int) (w : World) (hi : i < s.size) (hs : s.size ≤ 1000000) (hg : ∀ j (h : j < s.size), ((s[j]'h).toNat : Int) = g j)
  (h123 : g i = 123) (HR : Hid (R = endF s.size g i 0)) (HS : Hid (∀ (k : Nat) (W : World), k < s.size → Calls Try.prog 83 #[.string s, .int .i64 k] W fun e w' => e = .returned (.int .i64 (overF s.size g k)) ∧ Below W.heap.size W w')) :
  Calls Try.prog 74 #[.string s, .int .i64 i] w fun e w' => e = .returned (.int .i64 R) ∧ Below w.heap.size w w' := by
 have hbd := Lib.hid (fun k h => overF_bd s.size g k h)
 have d0 : (g i != 123) = false := by simp [h123]
 have d1 : decide ((i : Int) < 0) = false := by simp
 have d2 : decide (s.size ≤ i) = false := by simp; omega
 clear h123
 go_enter Try.func74, Try.ntmps74
 go_wp2_with fail
 go_loopw [5, 6] (fun x y wr => ∃ (k : Nat) (d : Int), k ≤ s.size ∧ -(k : Int) ≤ d ∧ d ≤ k ∧ x = .int .i64 d ∧ y = .int .i64 k ∧ Hid (R = endF s.size g k d) ∧ Below w.heap.size w wr) (fun x y _ => s.size + 1 - (intOf y).toNat)
 case atStart => exact ⟨i, 0, by omega, by omega, by omega, rfl, rfl, HR, Below.refl _ _⟩
 case round =>
  obtain ⟨k, d, hk, hd1, hd2, rfl, rfl, HK, hb⟩ := hrel
  by_cases hlt : k < s.size
  · have HSk := Lib.hid (HS.out k wr hlt)
    have hbk := hbd.out k hlt
    have HK2 := HK.out
    rw [endF, if_pos hlt] at HK2
    have HK3 := Lib.hid HK2
    clear HK HK2
    generalize overF s.size g k = o at *
    by_cases h1 : o = -1
    · subst h1
      go_wp2_with fail
      refine HSk.out.mono ?_
      rintro e w1 ⟨rfl, hb1⟩
      have hb2 := hb.trans (hb1.mono hb.size)
      go_wp2_with fail
      go_ret
      exact ⟨ret_int (by have e := HK3.out; rw [if_pos (by omega)] at e; exact e.symm), hb2⟩
    · by_cases h2 : (k : Int) < o
      · obtain ⟨m, rfl⟩ := Int.eq_ofNat_of_zero_le (show 0 ≤ o by omega)
        have HK4 : Hid (R = endF s.size g m d) := Lib.hid (by have e := HK3.out; rw [if_neg (by omega), if_pos h2] at e; simpa using e)
        have hkm : k < m := by omega
        have hms : m ≤ s.size := by omega
        clear hbk h1
        go_wp2_with fail
        refine HSk.out.mono ?_
        rintro e w1 ⟨rfl, hb1⟩
        have hb2 := hb.trans (hb1.mono hb.size)
        go_wp2_with fail
        go_roundw
        case rel => exact ⟨m, d, by omega, by omega, by omega, by go_num, by go_num, HK4, hb2⟩
        case measure => simp [intOf]; omega
      · obtain rfl : o = (k : Int) := by omega
        have HK4 : Hid (R = if deepF g k d = 0 then (k : Int) + 1 else endF s.size g (k + 1) (deepF g k d)) := Lib.hid (by have e := HK3.out; rw [if_neg (by omega), if_neg h2] at e; exact e)
        clear hbk h1 h2
        go_wp2_with fail
        refine HSk.out.mono ?_
        rintro e w1 ⟨rfl, hb1⟩
        have hb2 := hb.trans (hb1.mono hb.size)
        go_wp2_with fail
        all_goals first
         | (go_roundw
            case rel => exact ⟨k + 1, deepF g k d, by omega, by unfold deepF; split <;> (try split) <;> omega, by unfold deepF; split <;> (try split) <;> omega, by unfold deepF; grind, by go_num, Lib.hid (by have e := HK4.out; rw [if_neg (by unfold deepF; grind)] at e; exact e), hb2⟩
            case measure => simp [intOf]; omega)
         | (go_ret
            exact ⟨ret_int (by have e := HK4.out; rw [if_pos (by unfold deepF; grind)] at e; exact e.symm), hb2⟩)
  · go_wp2_with fail
    go_ret
    exact ⟨ret_int (by have e := HK.out; rw [endF, if_neg hlt] at e; exact e.symm), hb⟩
theorem rend_out (s : ByteArray) (i : Int) (w : World) (h : ¬ (0 ≤ i ∧ i < s.size)) (hs : s.size ≤ 1000000) :
  Calls Try.prog 74 #[.string s, .int .i64 i] w fun e w' => e = .returned (.int .i64 (-1)) ∧ Below w.heap.size w w' := by
 by_cases h1 : i < 0
 · go_enter Try.func74, Try.ntmps74
   go_wp2_with fail
   go_ret
   exact ⟨rfl, Below.refl _ _⟩
 · have h2 : (s.size : Int) ≤ i := by omega
   go_enter Try.func74, Try.ntmps74
   go_wp2_with fail
   go_ret
   exact ⟨rfl, Below.refl _ _⟩
theorem rend_not (s : ByteArray) (g : Nat → Int) (i : Nat) (w : World) (hi : i < s.size) (hs : s.size ≤ 1000000) (hg : ∀ j (h : j < s.size), ((s[j]'h).toNat : Int) = g j) (h123 : ¬ g i = 123) :
  Calls Try.prog 74 #[.string s, .int .i64 i] w fun e w' => e = .returned (.int .i64 (-1)) ∧ Below w.heap.size w w' := by
 have d0 : (g i != 123) = true := by simpa using h123
 go_enter Try.func74, Try.ntmps74
 go_wp2_with fail
 go_ret
 exact ⟨rfl, Below.refl _ _⟩
theorem rend_any (s : ByteArray) (i : Int) (w : World) (hs : s.size ≤ 1000000) :
  Calls Try.prog 74 #[.string s, .int .i64 i] w fun e w' => e = .returned (.int .i64 (endS s i)) ∧ Below w.heap.size w w' := by
 unfold endS
 by_cases h : 0 ≤ i ∧ i < s.size
 · obtain ⟨k, rfl⟩ := Int.eq_ofNat_of_zero_le h.1
   have hk : k < s.size := by omega
   by_cases h3 : gAt s k = 123
   · rw [if_pos ⟨h.1, h.2, h3⟩]
     exact rend_in s (gAt s) k _ w hk hs (fun j h => gAt_get s j h) h3 (Lib.hid rfl) (Lib.hid (fun k W hk => over_any s k W hk hs))
   · rw [if_neg (fun hc => h3 hc.2.2)]
     exact rend_not s (gAt s) k w hk hs (fun j h => gAt_get s j h) h3
 · rw [if_neg (fun hc => h ⟨hc.1, hc.2.1⟩)]
   exact rend_out s i w h hs
end
section
section
open Go.RowKit
def begB (c : Int) : Bool := decide (97 ≤ c ∧ c ≤ 122 ∨ 65 ≤ c ∧ c ≤ 90 ∨ c = 95)
def digB (c : Int) : Bool := decide (48 ≤ c ∧ c ≤ 57)
theorem rletter_any (c : Int) (w : World) :
  Calls Try.prog 81 #[.int .u8 c] w fun e w' => e = .returned (.bool (begB c)) ∧ w = w' := by
 go_enter Try.func81, Try.ntmps81
 go_wp2
 all_goals
  go_ret
  exact ⟨ret_bool (by rw [Bool.eq_iff_iff]; unfold begB; simp at *; omega), rfl⟩
theorem rdigit_any (c : Int) (w : World) :
  Calls Try.prog 82 #[.int .u8 c] w fun e w' => e = .returned (.bool (digB c)) ∧ w = w' := by
 go_enter Try.func82, Try.ntmps82
 go_wp2
 all_goals
  go_ret
  exact ⟨ret_bool (by rw [Bool.eq_iff_iff]; unfold digB; simp at *; omega), rfl⟩
def nameW (n : Nat) (g : Nat → Int) (i : Nat) : Nat := if i < n ∧ (begB (g i) = true ∨ digB (g i) = true ∨ g i = 46) then nameW n g (i + 1) else i
 termination_by n - i
def nameF (n : Nat) (g : Nat → Int) (i : Nat) : Nat := if i < n ∧ begB (g i) = true then nameW n g i else i
theorem nameW_bd (n : Nat) (g : Nat → Int) (i : Nat) (hi : i ≤ n) : i ≤ nameW n g i ∧ nameW n g i ≤ n := by
 fun_induction nameW n g i with
 | case1 i h ih => have := ih (by omega); omega
 | case2 i h => omega
theorem nameF_bd (n : Nat) (g : Nat → Int) (i : Nat) (hi : i ≤ n) : i ≤ nameF n g i ∧ nameF n g i ≤ n := by
 unfold nameF; split
 · exact nameW_bd n g i hi
 · omega
def isNameB (t : ByteArray) : Bool := decide (1 ≤ t.size ∧ t.size ≤ 20 ∧ nameF t.size (gAt t) 0 = t.size)
end
section
open Go.RowKit
set_option maxRecDepth 100000 in
theorem nameAt_any (s : ByteArray) (i : Nat) (w : World) (hi : i ≤ s.size) (hs : s.size ≤ 1000000) :
  Calls Try.prog 72 #[.string s, .int .i64 i] w fun e w' => e = .returned (.int .i64 (nameF s.size (gAt s) i - i : Nat)) ∧ w = w' := by
 have hg := fun j h => gAt_get s j h
 generalize gAt s = g at *
 have hbd := nameF_bd s.size g i hi
 have HR : Hid (∃ R, R = nameF s.size g i) := ⟨_, rfl⟩
 obtain ⟨R, hR⟩ := HR
 rw [← hR] at hbd ⊢
 have HI : Hid (if i < s.size ∧ begB (g i) = true then R = nameW s.size g i else R = i) := Lib.hid (by rw [hR]; unfold nameF; split <;> rfl)
 clear hR
 go_enter Try.func72, Try.ntmps72
 go_wp2_with fail
 go_loop [5] (fun x => ∃ k : Nat, i + k ≤ s.size ∧ x = .int .i64 k ∧ Hid (if k = 0 then (if i < s.size ∧ begB (g i) = true then R = nameW s.size g i else R = i) else R = nameW s.size g (i + k))) (fun x => s.size + 1 - (intOf x).toNat)
 case atStart => exact ⟨0, by omega, rfl, Lib.hid (by rw [if_pos rfl]; exact HI.out)⟩
 case round =>
  obtain ⟨k, hk, rfl, HK⟩ := hrel
  have e1 : ((i : Int) + (k : Int)).toNat = i + k := by omega
  by_cases hlt : i + k < s.size
  · by_cases hk0 : k = 0
    · subst hk0
      have HK2 : Hid (if i < s.size ∧ begB (g i) = true then R = nameW s.size g i else R = i) := Lib.hid (by have e := HK.out; rwa [if_pos rfl] at e)
      clear HK e1
      cases hb : begB (g i) with
      | true =>
        have HK3 : Hid (R = nameW s.size g (i + 1)) := Lib.hid (by have e := HK2.out; rw [if_pos ⟨by omega, hb⟩, nameW, if_pos ⟨by omega, .inl hb⟩] at e; exact e)
        go_wp2_with (first | (go_at_call 81; refine (rletter_any _ _).mono ?_; rintro e w' ⟨rfl, rfl⟩) | (go_at_call 82; refine (rdigit_any _ _).mono ?_; rintro e w' ⟨rfl, rfl⟩))
        go_round
        case rel => exact ⟨1, by omega, by go_num, Lib.hid (by rw [if_neg (by omega)]; exact HK3.out)⟩
        case measure => simp [intOf] <;> omega
      | false =>
        have HK3 : Hid (R = i) := Lib.hid (by have e := HK2.out; rw [if_neg (by simp [hb])] at e; exact e)
        go_wp2_with (first | (go_at_call 81; refine (rletter_any _ _).mono ?_; rintro e w' ⟨rfl, rfl⟩) | (go_at_call 82; refine (rdigit_any _ _).mono ?_; rintro e w' ⟨rfl, rfl⟩))
        go_ret
        exact ⟨ret_int (by rw [HK3.out]; simp), rfl⟩
    · have HK2 : Hid (R = nameW s.size g (i + k)) := Lib.hid (by have e := HK.out; rwa [if_neg hk0] at e)
      have d1 : (0 : Int) < (k : Int) := by omega
      clear HK hk0
      go_wp2_with (first | (go_at_call 81; refine (rletter_any _ _).mono ?_; rintro e w' ⟨rfl, rfl⟩) | (go_at_call 82; refine (rdigit_any _ _).mono ?_; rintro e w' ⟨rfl, rfl⟩))
      all_goals first
       | (go_round
          case rel => exact ⟨k + 1, by omega, by go_num, Lib.hid (by rw [if_neg (by omega)]; have e := HK2.out; rw [nameW] at e; grind)⟩
          case measure => simp [intOf]; omega)
       | (go_ret
          exact ⟨ret_int (by have e := HK2.out; rw [nameW] at e; grind), rfl⟩)
  · have HK2 : Hid (R - i = k) := Lib.hid (by
     have e := HK.out
     by_cases hk0 : k = 0
     · rw [if_pos hk0, if_neg (by omega)] at e; omega
     · rw [if_neg hk0, nameW, if_neg (by omega)] at e; omega)
    clear HK
    go_wp2_with fail
    go_ret
    exact ⟨ret_int (by rw [HK2.out]), rfl⟩
set_option maxRecDepth 100000 in
theorem rname_any (t : ByteArray) (w : World) (hs : t.size ≤ 1000000) :
  Calls Try.prog 55 #[.string t] w fun e w' => e = .returned (.bool (isNameB t)) ∧ w = w' := by
 have hn := nameAt_any t 0 w (by omega) hs
 have HN := Lib.hid hn
 have HR : Hid (isNameB t = decide (1 ≤ t.size ∧ t.size ≤ 20 ∧ nameF t.size (gAt t) 0 - 0 = t.size)) := Lib.hid rfl
 generalize isNameB t = R at HR ⊢
 generalize nameF t.size (gAt t) 0 - 0 = m at HN HR
 clear hn
 by_cases h1 : 1 ≤ t.size
 · by_cases h20 : t.size ≤ 20
   · by_cases hm : m = t.size
     · have HR2 : Hid (R = true) := Lib.hid (by rw [HR.out]; exact decide_eq_true (by omega))
       subst hm
       go_enter Try.func55, Try.ntmps55
       go_wp2_with (first | (go_at_call 72; refine HN.out.mono ?_; rintro e w' ⟨rfl, rfl⟩))
       go_ret
       exact ⟨ret_bool (by rw [HR2.out]), rfl⟩
     · have HR2 : Hid (R = false) := Lib.hid (by rw [HR.out]; exact decide_eq_false (by omega))
       have d3 : ((m : Int) == (t.size : Int)) = false := by simp; omega
       clear hm
       go_enter Try.func55, Try.ntmps55
       go_wp2_with (first | (go_at_call 72; refine HN.out.mono ?_; rintro e w' ⟨rfl, rfl⟩))
       go_ret
       exact ⟨ret_bool (by rw [HR2.out]), rfl⟩
   · have HR2 : Hid (R = false) := Lib.hid (by rw [HR.out]; exact decide_eq_false (by omega))
     go_enter Try.func55, Try.ntmps55
     go_wp2_with fail
     go_ret
     exact ⟨ret_bool (by rw [HR2.out]), rfl⟩
 · have HR2 : Hid (R = false) := Lib.hid (by rw [HR.out]; exact decide_eq_false (by omega))
   go_enter Try.func55, Try.ntmps55
   go_wp2_with fail
   go_ret
   exact ⟨ret_bool (by rw [HR2.out]), rfl⟩
end
end
section
section
open Go.RowKit
theorem str_empty {t : ByteArray} (h : t.size = 0) : t.toList = [] := by
 apply List.eq_nil_of_length_eq_zero
 rw [Lib.toList_data]; exact h
theorem str_some {t : ByteArray} (h : ¬ t.size = 0) : t.toList.isEmpty = false := by
 rw [List.isEmpty_eq_false_iff, Lib.toList_data]
 intro e
 exact h (by have := congrArg List.length e; simpa using this)
end
section
open Go.RowKit
end
section
open Go.RowKit
end
end
section
open Go.RowKit
theorem ret_esc {a a' : Int} {b b' : Bool} (h : a = a') (h' : b = b') : Ending.returned (.tuple #[.int .u8 a, .bool b]) = .returned (.tuple #[.int .u8 a', .bool b']) := by rw [h, h']
def quotB (c : Int) : Bool := decide (c = 10 ∨ c = 9 ∨ c = 13 ∨ 32 ≤ c ∧ c ≤ 126)
def quotC (c : Int) : Int := if c = 10 then 110 else if c = 9 then 116 else if c = 13 then 114 else if c = 92 ∨ c = 39 then c else 0
theorem quoted_any (c : Int) (w : World) (h0 : 0 ≤ c) (h1 : c ≤ 255) :
  Calls Try.prog 80 #[.int .u8 c] w fun e w' => e = .returned (.tuple #[.int .u8 (quotC c), .bool (quotB c)]) ∧ w = w' := by
 go_enter Try.func80, Try.ntmps80
 go_wp2
 all_goals go_ret2
 all_goals exact ⟨ret_esc (by unfold quotC; simp at *; grind) (by unfold quotB; simp at *; grind), rfl⟩
end
section
open Go.RowKit
def noneB (x : Sm) : Bool := decide (x.name.size = 0 ∧ x.lit = false ∧ x.num = 0)
def symB (num lit : Bool) (x : Sm) : Bool :=
 if x.lit = true then decide (lit = true ∧ x.name.size = 1 ∧ x.num = 0 ∧ quotB (gAt x.name 0) = true)
 else decide (isNameB x.name = true ∧ (x.num = 0 ∨ num = true ∧ 1 ≤ x.num ∧ x.num ≤ 50000))
def mayPt (p : Pt) : Bool := if p.code.size = 0 then symB false true p.sym else noneB p.sym && decide (endS p.code 0 = p.code.size)
def mayAl (a : Al) : Bool := a.parts.all mayPt && (noneB a.prec || symB false true a.prec)
def mayRl (r : Rl) : Bool := isNameB r.left && (decide (r.alts.length ≠ 0) && r.alts.all mayAl)
def dcB (d : Dc) : Bool := decide (1 ≤ d.kind ∧ d.kind ≤ 6 ∧ d.syms.length ≠ 0 ∧ (d.kind = 6 → d.syms.length = 1 ∧ d.tag.size = 0) ∧ (d.kind = 5 → d.tag.size ≠ 0) ∧ (d.tag.size = 0 ∨ isNameB d.tag = true))
def mayDc (d : Dc) : Bool := dcB d && d.syms.all (symB (d.kind == 1) (decide (d.kind < 5)))
def SmSmall (x : Sm) : Prop := x.name.size ≤ 1000000
def PtSmall (p : Pt) : Prop := SmSmall p.sym ∧ p.code.size ≤ 1000000
def AlSmall (a : Al) : Prop := (∀ p ∈ a.parts, PtSmall p) ∧ SmSmall a.prec
def RlSmall (r : Rl) : Prop := r.left.size ≤ 1000000 ∧ ∀ a ∈ r.alts, AlSmall a
def DcSmall (d : Dc) : Prop := d.tag.size ≤ 1000000 ∧ ∀ x ∈ d.syms, SmSmall x
def SoSmall (s : So) : Prop := s.pro.size ≤ 1000000 ∧ s.tail.size ≤ 1000000 ∧ (∀ d ∈ s.decls, DcSmall d) ∧ ∀ r ∈ s.rules, RlSmall r
set_option maxRecDepth 100000 in
theorem none_any (x : Sm) (w : World) : Calls Try.prog 73 #[x.agg] w fun e w' => e = .returned (.bool (noneB x)) ∧ Below w.heap.size w w' := by
 have HR : Hid (noneB x = decide (x.name.size = 0 ∧ x.lit = false ∧ x.num = 0)) := Lib.hid rfl
 generalize noneB x = R at HR ⊢
 obtain ⟨n, l, m, p⟩ := x
 unfold Sm.agg
 simp only at HR ⊢
 by_cases h0 : n.size = 0
 · have d1 := str_empty h0
   have HR2 : Hid (R = decide (l = false ∧ m = 0)) := Lib.hid (by rw [HR.out]; simp [h0])
   clear HR h0
   cases l with
   | true =>
     go_enter Try.func73, Try.ntmps73
     go_wp2_with fail
     all_goals
      go_ret
      exact ⟨ret_bool (by rw [HR2.out, Bool.eq_iff_iff]; simp at *), (Below.refl _ _).alloc (Nat.le_refl _) _⟩
   | false =>
     go_enter Try.func73, Try.ntmps73
     go_wp2_with fail
     all_goals
      go_ret
      exact ⟨ret_bool (by rw [HR2.out, Bool.eq_iff_iff]; simp at *), (Below.refl _ _).alloc (Nat.le_refl _) _⟩
 · have d1 := str_some h0
   have HR2 : Hid (R = false) := Lib.hid (by rw [HR.out]; simp [h0])
   clear HR h0
   go_enter Try.func73, Try.ntmps73
   go_wp2_with fail
   all_goals
    go_ret
    exact ⟨ret_bool (by rw [HR2.out]), (Below.refl _ _).alloc (Nat.le_refl _) _⟩
set_option maxRecDepth 100000 in
set_option maxHeartbeats 4000000 in
theorem smay_any (x : Sm) (num lit : Bool) (w : World) (hs : SmSmall x) : Calls Try.prog 71 #[x.agg, .bool num, .bool lit] w fun e w' => e = .returned (.bool (symB num lit x)) ∧ Below w.heap.size w w' := by
 have HR : Hid (symB num lit x = if x.lit = true then decide (lit = true ∧ x.name.size = 1 ∧ x.num = 0 ∧ quotB (gAt x.name 0) = true)
  else decide (isNameB x.name = true ∧ (x.num = 0 ∨ num = true ∧ 1 ≤ x.num ∧ x.num ≤ 50000))) := Lib.hid rfl
 generalize symB num lit x = R at HR ⊢
 obtain ⟨n, l, m, p⟩ := x
 unfold Sm.agg
 unfold SmSmall at hs
 simp only at HR hs ⊢
 have hg := fun j h => gAt_get n j h
 have HQ := Lib.hid (fun W => quoted_any (gAt n 0) W (gAt_lo n 0) (gAt_hi n 0))
 have HI := Lib.hid (fun W => rname_any n W hs)
 generalize gAt n = g at *
 cases l with
 | true =>
   have HR2 : Hid (R = decide (lit = true ∧ n.size = 1 ∧ m = 0 ∧ quotB (g 0) = true)) := Lib.hid (by rw [HR.out]; simp)
   clear HR HI
   generalize quotB (g 0) = qb at HQ HR2
   generalize quotC (g 0) = qc at HQ
   by_cases h1 : n.size = 1
   · have HR3 : Hid (R = decide (lit = true ∧ m = 0 ∧ qb = true)) := Lib.hid (by rw [HR2.out]; simp [h1])
     clear HR2
     cases lit <;> cases qb
     all_goals
      go_enter Try.func71, Try.ntmps71
      go_wp2_with (first | (go_at_call 80; rw [hg]; refine (HQ.out _).mono ?_; rintro e w' ⟨rfl, rfl⟩) | (go_at_call 80; refine (HQ.out _).mono ?_; rintro e w' ⟨rfl, rfl⟩))
      all_goals
       go_ret
       exact ⟨ret_bool (by rw [HR3.out, Bool.eq_iff_iff]; simp at *; try omega), (Below.refl _ _).alloc (Nat.le_refl _) _⟩
   · have HR3 : Hid (R = false) := Lib.hid (by rw [HR2.out]; simp [h1])
     have h2 : ((n.size : Int) != 1) = true := by simp; omega
     clear HR2 h1
     cases lit
     all_goals
      go_enter Try.func71, Try.ntmps71
      go_wp2_with fail
      all_goals
       go_ret
       exact ⟨ret_bool (by rw [HR3.out]), (Below.refl _ _).alloc (Nat.le_refl _) _⟩
 | false =>
   have HR2 : Hid (R = decide (isNameB n = true ∧ (m = 0 ∨ num = true ∧ 1 ≤ m ∧ m ≤ 50000))) := Lib.hid (by rw [HR.out]; simp)
   clear HR HQ
   generalize isNameB n = nb at HI HR2
   cases nb <;> cases num
   all_goals
    go_enter Try.func71, Try.ntmps71
    go_wp2_with (first | (go_at_call 55; refine (HI.out _).mono ?_; rintro e w' ⟨rfl, rfl⟩))
    all_goals
     go_ret
     exact ⟨ret_bool (by rw [HR2.out, Bool.eq_iff_iff]; simp at *; try omega), (Below.refl _ _).alloc (Nat.le_refl _) _⟩
end
section
open Go.RowKit
open Classical in
noncomputable def over (w W : World) : World := if Below w.heap.size w W then W else w
theorem over_below (w W : World) : Below w.heap.size w (over w W) := by
 unfold over
 split
 · assumption
 · exact Below.refl _ _
theorem over_of {w W : World} (h : Below w.heap.size w W) : W = over w W := (if_pos h).symm
theorem over_cell {w : World} {p : Addr} {u : Value} (h : w.cell? p = some u) (W : World) : (over w W).cell? p = some u :=
 ((over_below w W).cell (World.block_lt_of_cell? _ _ h)).trans h
theorem calls_over {P : Program} {f : FuncId} {args : Array Value} {w V : World} {v : Value} {R : Ending → World → Prop}
  (h : Calls P f args (over w V) R) (hr : ∀ e w', R e w' → e = .returned v ∧ Below (over w V).heap.size (over w V) w') : Calls P f args (over w V) fun e w'' => e = .returned v ∧ ∃ V', w'' = over w V' :=
 h.mono fun e w' hR => ⟨(hr e w' hR).1, w', over_of ((over_below w V).trans ((hr e w' hR).2.mono (over_below w V).size))⟩
theorem wp_region_over {P : Program} {id : Nat} {Q : Exit → Act → World → Prop} {a : Act} {w : World} {l : List Oper} (hm : P.follows .mixedOrders = true) (hB : Region.lexB .any l.toArray = true)
  (h : wpQuiet P l.toArray (fun w' => ∃ V, w' = over w V) (fun a' => ∀ w', (∃ V, w' = over w V) → Q .normal a' w') l a) : (Code.region id l.toArray true).wp P Q a w :=
 wp_region_quiet (C := fun w' => ∃ V, w' = over w V) hm hB ⟨w.drew, over_of (Below.refl _ _).drew⟩ (by simpa using h)
end
end Go.Proofs.Ytkgbifbbpmdpgaa
