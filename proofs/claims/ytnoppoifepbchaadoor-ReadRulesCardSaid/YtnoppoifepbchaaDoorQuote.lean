import Derived.Test.YtnoppoifepbchaaDoorChecked
import Derived.Test.YtnoppoifepbchaaDoorBaseA
import Derived.Test.YtnoppoifepbchaaDoorScan
namespace Go.Proofs.YtnoppoifepbchaaDoor
open Go.RowKit
set_option linter.unusedVariables false

def plainB (c : Int) : Bool := decide (32 ≤ c ∧ c ≤ 126 ∧ c ≠ 39 ∧ c ≠ 92)

theorem plain_any (c : Int) (w : World) (h0 : 0 ≤ c) (h1 : c ≤ 255) :
  Calls Tryd.prog 112 #[.int .u8 c] w fun e w' => e = .returned (.bool (plainB c)) ∧ w = w' := by
 go_enter Tryd.func112, Tryd.ntmps112
 go_wp2
 all_goals go_ret
 · exact ⟨ret_bool (by unfold plainB; symm; simp; omega), rfl⟩
 · refine ⟨ret_bool ?_, rfl⟩
   unfold plainB
   show (c != 39 && c != 92) = _
   rw [Bool.eq_iff_iff]; simp; omega
 · exact ⟨ret_bool (by unfold plainB; symm; simp; omega), rfl⟩
 · exact ⟨ret_bool (by unfold plainB; symm; simp; omega), rfl⟩

def escC (c : Int) : Int := if c = 110 then 10 else if c = 116 then 9 else if c = 114 then 13 else if c = 92 ∨ c = 39 then c else 0
def escB (c : Int) : Bool := decide (c = 110 ∨ c = 116 ∨ c = 114 ∨ c = 92 ∨ c = 39)

theorem ret_esc {a a' : Int} {b b' : Bool} (h : a = a') (h' : b = b') : Ending.returned (.tuple #[.int .u8 a, .bool b]) = .returned (.tuple #[.int .u8 a', .bool b']) := by rw [h, h']

theorem esc_any (c : Int) (w : World) (h0 : 0 ≤ c) (h1 : c ≤ 255) :
  Calls Tryd.prog 113 #[.int .u8 c] w fun e w' => e = .returned (.tuple #[.int .u8 (escC c), .bool (escB c)]) ∧ w = w' := by
 go_enter Tryd.func113, Tryd.ntmps113
 go_wp2
 all_goals go_ret2
 all_goals exact ⟨ret_esc (by unfold escC; simp at *; grind) (by unfold escB; simp at *; grind), rfl⟩

def quoteL (c : Int) : List Int :=
 if c = 10 then [39, 92, 110, 39] else if c = 9 then [39, 92, 116, 39] else if c = 13 then [39, 92, 114, 39] else if c = 92 then [39, 92, 92, 39]
 else if c = 39 then [39, 92, 39, 39] else if plainB c = true then [39, c, 39] else []

theorem ql_10 {c : Int} (h : c = 10) : quoteL c = [39, 92, 110, 39] := by subst h; rfl
theorem ql_9 {c : Int} (h : c = 9) : quoteL c = [39, 92, 116, 39] := by subst h; rfl
theorem ql_13 {c : Int} (h : c = 13) : quoteL c = [39, 92, 114, 39] := by subst h; rfl
theorem ql_92 {c : Int} (h : c = 92) : quoteL c = [39, 92, c, 39] := by subst h; rfl
theorem ql_39 {c : Int} (h : c = 39) : quoteL c = [39, 92, c, 39] := by subst h; rfl
theorem ql_plain {c : Int} (h : plainB c = true) : quoteL c = [39, c, 39] := by
 have h' := h
 unfold plainB at h'
 simp at h'
 unfold quoteL
 rw [if_neg (by omega), if_neg (by omega), if_neg (by omega), if_neg (by omega), if_neg (by omega), if_pos h]
theorem ql_none {c : Int} (h : plainB c = false) (h1 : c ≠ 10) (h2 : c ≠ 9) (h3 : c ≠ 13) (h4 : c ≠ 92) (h5 : c ≠ 39) : quoteL c = [] := by
 unfold quoteL
 rw [if_neg h1, if_neg h2, if_neg h3, if_neg h4, if_neg h5, if_neg (by rw [h]; simp)]

theorem ctext_any (c : Int) (w : World) (h0 : 0 ≤ c) (h1 : c ≤ 255) :
  Calls Tryd.prog 98 #[.int .u8 c] w fun e w' => e = .returned (.string (bytesOf (quoteL c))) ∧ Below w.heap.size w w' := by
 have hc3 : ∀ (x : Int) (w : World), (convert 63 9 (.slice (some ⟨w.heap.size,0,none⟩) 3 3)).run Tryd.prog (w.alloc (.cells #[.int .u8 39, .int .u8 x, .int .u8 39] 5)) = .ok (.string (bytesOf [39,x,39])) (w.alloc (.cells #[.int .u8 39, .int .u8 x, .int .u8 39] 5)) :=
  fun x w => run_conv_new w _ _ _ [39, x, 39] 3 Tryd.underlying63 Tryd.underlying5 Tryd.underlying9
 go_enter Tryd.func98, Tryd.ntmps98
 go_wp2_with (first | (go_at_call 112; refine (plain_any _ _ (by omega) (by omega)).mono ?_; rintro e w' ⟨rfl, rfl⟩))
 all_goals go_ret
 · exact ⟨ret_str (by rw [ql_10 (by grind)]; rfl), Below.refl _ _⟩
 · exact ⟨ret_str (by rw [ql_9 (by grind)]; rfl), Below.refl _ _⟩
 · exact ⟨ret_str (by rw [ql_13 (by grind)]; rfl), Below.refl _ _⟩
 · exact ⟨ret_str (by have e : c = 92 := by grind
                      rw [ql_92 e, e]; rfl), Below.refl _ _⟩
 · exact ⟨ret_str (by have e : c = 39 := by grind
                      rw [ql_39 e, e]; rfl), Below.refl _ _⟩
 · exact ⟨ret_str (by rw [ql_none (by grind) (by grind) (by grind) (by grind) (by grind) (by grind)]; rfl), Below.refl _ _⟩
 · exact ⟨ret_str (by rw [ql_plain (by grind)]), (Below.refl _ _).alloc (Nat.le_refl _) _⟩

theorem quote_any (c : Int) (w : World) (h0 : 0 ≤ c) (h1 : c ≤ 255) :
  Calls Tryd.prog 23 #[.int .u8 c] w fun e w' => e = .returned (.string (bytesOf (quoteL c))) ∧ Below w.heap.size w w' := by
 have hc1 : ∀ (x : Int) (w : World), (convert 63 9 (.slice (some ⟨w.heap.size,0,none⟩) 1 1)).run Tryd.prog (w.alloc (.cells #[.int .u8 x] 5)) = .ok (.string (bytesOf [x])) (w.alloc (.cells #[.int .u8 x] 5)) :=
  fun x w => run_conv_new w _ _ _ [x] 1 Tryd.underlying63 Tryd.underlying5 Tryd.underlying9
 have hz : ∀ x, (bytesOf [x]).size = 1 := fun x => rfl
 go_enter Tryd.func23, Tryd.ntmps23
 go_wp2
 all_goals go_ret
 · exact ⟨ret_str (by rw [ql_10 (by grind)]; exact (congrArg (· ++ _) (bytesOf_append [39, 92] [110])).trans (bytesOf_append [39, 92, 110] [39])), (Below.refl _ _).alloc (Nat.le_refl _) _⟩
 · exact ⟨ret_str (by rw [ql_9 (by grind)]; exact (congrArg (· ++ _) (bytesOf_append [39, 92] [116])).trans (bytesOf_append [39, 92, 116] [39])), (Below.refl _ _).alloc (Nat.le_refl _) _⟩
 · exact ⟨ret_str (by rw [ql_13 (by grind)]; exact (congrArg (· ++ _) (bytesOf_append [39, 92] [114])).trans (bytesOf_append [39, 92, 114] [39])), (Below.refl _ _).alloc (Nat.le_refl _) _⟩
 · exact ⟨ret_str (by rw [ql_92 (by grind)]; exact (congrArg (· ++ _) (bytesOf_append [39, 92] [c])).trans (bytesOf_append [39, 92, c] [39])), (Below.refl _ _).alloc (Nat.le_refl _) _⟩
 · exact ⟨ret_str (by rw [ql_39 (by grind)]; exact (congrArg (· ++ _) (bytesOf_append [39, 92] [c])).trans (bytesOf_append [39, 92, c] [39])), (Below.refl _ _).alloc (Nat.le_refl _) _⟩
 · exact ⟨ret_str (by rw [ql_none (by unfold plainB; grind) (by grind) (by grind) (by grind) (by grind) (by grind)]; rfl), (Below.refl _ _)⟩
 · exact ⟨ret_str (by rw [ql_plain (by unfold plainB; grind)]; exact (congrArg (· ++ _) (bytesOf_append [39] [c])).trans (bytesOf_append [39, c] [39])), (Below.refl _ _).alloc (Nat.le_refl _) _⟩
 · exact ⟨ret_str (by rw [ql_none (by unfold plainB; grind) (by grind) (by grind) (by grind) (by grind) (by grind)]; rfl), (Below.refl _ _)⟩

def quotB (c : Int) : Bool := decide (c = 10 ∨ c = 9 ∨ c = 13 ∨ 32 ≤ c ∧ c ≤ 126)
def quotC (c : Int) : Int := if c = 10 then 110 else if c = 9 then 116 else if c = 13 then 114 else if c = 92 ∨ c = 39 then c else 0
theorem quoted_any (c : Int) (w : World) (h0 : 0 ≤ c) (h1 : c ≤ 255) :
  Calls Tryd.prog 52 #[.int .u8 c] w fun e w' => e = .returned (.tuple #[.int .u8 (quotC c), .bool (quotB c)]) ∧ w = w' := by
 go_enter Tryd.func52, Tryd.ntmps52
 go_wp2
 all_goals go_ret2
 all_goals exact ⟨ret_esc (by unfold quotC; simp at *; grind) (by unfold quotB; simp at *; grind), rfl⟩
theorem quoteL_some (c : Int) : quoteL c = [] ↔ quotB c = false := by
 unfold quoteL quotB plainB
 grind
end Go.Proofs.YtnoppoifepbchaaDoor
