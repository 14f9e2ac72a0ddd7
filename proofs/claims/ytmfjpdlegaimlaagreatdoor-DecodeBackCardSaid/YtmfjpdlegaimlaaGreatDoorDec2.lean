/- A word that is a number, with its sign, as the program reads it. -/
import Derived.Test.YtmfjpdlegaimlaaGreatDoorDec1
namespace Go.Proofs.YtmfjpdlegaimlaaGreatDoor
open Go.RowKit
set_option linter.unusedVariables false
set_option linter.unusedSimpArgs false

theorem digF_all (n : Nat) (g : Nat → Int) (i : Nat) (hi : i ≤ n) : digF n g i = n → ∀ j, i ≤ j → j < n → digB (g j) = true := by
  fun_induction digF n g i with
  | case1 i h ih =>
    intro e j h1 h2
    by_cases hj : j = i
    · rw [hj]; exact h.2
    · exact ih (by omega) e j (by omega) h2
  | case2 i h => intro e j h1 h2; omega
def Digs (l : List UInt8) : Prop := ∀ b ∈ l, 48 ≤ b.toNat ∧ b.toNat ≤ 57
theorem digs_of (s : ByteArray) (h : digF s.size (gAt s) 0 = s.size) : Digs s.data.toList := by
  intro b hb
  obtain ⟨j, hj, rfl⟩ := List.mem_iff_getElem.1 hb
  have hj' : j < s.size := hj
  have h1 := digF_all s.size (gAt s) 0 (Nat.zero_le _) h j (Nat.zero_le _) hj'
  rw [← gAt_at s j hj] at h1
  unfold digB at h1
  have := of_decide_eq_true h1
  omega
theorem dec_some : ∀ (l : List UInt8) (acc : Nat), Digs l → ∃ m, Lib.decFrom acc l = some m ∧ m < (acc + 1) * 10 ^ l.length
  | [], acc, _ => ⟨acc, rfl, by simp⟩
  | b :: r, acc, h => by
    have hb := h b (List.mem_cons_self ..)
    obtain ⟨m, h1, h2⟩ := dec_some r (acc * 10 + (b.toNat - 48)) (fun x hx => h x (List.mem_cons_of_mem _ hx))
    refine ⟨m, ?_, ?_⟩
    · rw [Lib.decFrom]
      have : Lib.digitVal b = some (b.toNat - 48) := by unfold Lib.digitVal; rw [if_pos hb]
      rw [this]; exact h1
    · refine Nat.lt_of_lt_of_le h2 ?_
      rw [List.length_cons, Nat.pow_succ]
      generalize 10 ^ r.length = p
      have h3 : (acc + 1) * (p * 10) = (acc * 10 + 10) * p := by rw [Nat.mul_comm p 10, ← Nat.mul_assoc]; congr 1; omega
      rw [h3]
      exact Nat.mul_le_mul_right _ (by omega)
theorem atoi_some (l : List UInt8) (h : Digs l) (hne : l ≠ []) : ∃ m : Nat, Lib.atoi l = some (m : Int) ∧ m < 10 ^ l.length := by
  obtain ⟨m, h1, h2⟩ := dec_some l 0 h
  cases l with
  | nil => exact absurd rfl hne
  | cons b r =>
    have hd := h b (List.mem_cons_self ..)
    have n45 : (b == 45) = false := by
      cases e : b == 45 with
      | false => rfl
      | true => have := beq_iff_eq.1 e; subst this; exact absurd hd.1 (by decide)
    have n43 : (b == 43) = false := by
      cases e : b == 43 with
      | false => rfl
      | true => have := beq_iff_eq.1 e; subst this; exact absurd hd.1 (by decide)
    refine ⟨m, ?_, by simpa using h2⟩
    simp only [Lib.atoi, n45, n43, Lib.decNat, List.isEmpty_cons, h1]
    rfl
def cntL (s : ByteArray) : Int × Bool := cntF s.size (gAt s) (Lib.atoi s.data.toList) 9
theorem cntL_any (s : ByteArray) (w : World) (hs : s.size ≤ 1000000) :
    Calls Tryz.prog 45 #[.string s, .int .i64 9] w fun e w' => e = .returned (.tuple #[.int .i64 (cntL s).1, .bool (cntL s).2]) ∧ Below w.heap.size w w' :=
  count_any s w hs (fun h1 h2 _ => by
    obtain ⟨m, h, _⟩ := atoi_some s.data.toList (digs_of s h1) (fun e => h2 (by show s.data.toList.length = 0; rw [e]; rfl))
    exact ⟨_, h⟩)
theorem cntL_bd (s : ByteArray) : 0 ≤ (cntL s).1 ∧ (cntL s).1 < 1000000000 := by
  unfold cntL cntF
  split
  · exact ⟨by decide, by decide⟩
  split
  · exact ⟨by decide, by decide⟩
  · rename_i h1 h2
    have hd := digF_bd s.size (gAt s) 0 (Nat.zero_le _)
    obtain ⟨m, h, h3⟩ := atoi_some s.data.toList (digs_of s (by omega)) (fun e => h1 (.inl (by show s.data.toList.length = 0; rw [e]; rfl)))
    rw [h]
    have h4 : s.data.toList.length = s.size := rfl
    have h5 : 10 ^ s.data.toList.length ≤ 10 ^ 9 := Nat.pow_le_pow_right (by decide) (by omega)
    show 0 ≤ (m : Int) ∧ (m : Int) < 1000000000
    omega
def bareT (s : ByteArray) : ByteArray := ⟨(Lib.trimPrefix s.data.toList [45]).toArray⟩
def negT (s : ByteArray) : Bool := Lib.hasPrefix s.data.toList [45]
def numF (s : ByteArray) : Int × Bool := if negT s then (-(cntL (bareT s)).1, (cntL (bareT s)).2 && decide ((cntL (bareT s)).1 ≠ 0)) else cntL (bareT s)
theorem bareT_size (s : ByteArray) : (bareT s).size ≤ s.size := by
  unfold bareT Lib.trimPrefix
  show (List.toArray _).size ≤ s.data.toList.length
  split <;> simp
set_option maxRecDepth 100000 in
theorem number_any (s : ByteArray) (w : World) (hs : s.size ≤ 1000000) :
    Calls Tryz.prog 23 #[.string s] w fun e w' => e = .returned (.tuple #[.int .i64 (numF s).1, .bool (numF s).2]) ∧ Below w.heap.size w w' := by
  have HP : Hid (∀ W, Calls Tryz.prog 18 #[.string s, .string ⟨#[45]⟩] W fun e w' => e = .returned (.tuple #[.string (bareT s), .bool (negT s)]) ∧ w' = W) := Lib.hid (fun W => Tryz.strings_CutPrefix s ⟨#[45]⟩ W)
  have HC : Hid (∀ W, Calls Tryz.prog 45 #[.string (bareT s), .int .i64 9] W fun e w' => e = .returned (.tuple #[.int .i64 (cntL (bareT s)).1, .bool (cntL (bareT s)).2]) ∧ Below W.heap.size W w') := Lib.hid (fun W => cntL_any (bareT s) W (Nat.le_trans (bareT_size s) hs))
  have hb := cntL_bd (bareT s)
  have H0 : Hid (numF s = numF s) := Lib.hid rfl
  generalize hR : numF s = R at H0 ⊢
  unfold numF at hR
  have HR := Lib.hid hR.symm
  clear H0 hR
  generalize hc : cntL (bareT s) = c at *
  clear hc
  obtain ⟨n, ok⟩ := c
  generalize bareT s = b at *
  generalize negT s = m at *
  simp only at HC HR hb
  go_enter Tryz.func23, Tryz.ntmps23
  go_wp2_with (first
    | (go_at_call 18; refine (HP.out _).mono ?_; rintro e w1 ⟨rfl, rfl⟩)
    | (go_at_call 45; refine (HC.out _).mono ?_; rintro e w2 ⟨rfl, hb2⟩))
  all_goals
    go_ret2
    exact ⟨ret_pair (by rw [HR.out]; clear HR HP HC; simp at *; grind), hb2⟩
end Go.Proofs.YtmfjpdlegaimlaaGreatDoor
